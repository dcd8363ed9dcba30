import Derived.Test.YtjjepgkcgbbmhaaGGds
namespace Go.Proofs.Ytjjepgkcgbbmhaa
open Go.RowKit Go.Maps
set_option maxRecDepth 20000
set_option linter.unusedVariables false

theorem OB.form12 {w : World} {base : Nat} {v : Value} {l : List Int} (h : OB w base v l) (hl : 0 < l.length) : ∃ g c, v = .slice (Option.some ⟨g, 0, none⟩) l.length c ∧ base ≤ g ∧ l.length ≤ c ∧ c ≤ 9223372036854775807 := by
  rcases h.2 with ⟨rfl, h0⟩ | ⟨g, cap, cur, rfl, h1, h2, h3, h4, _⟩
  · omega
  · unfold maxLen at h4
    exact ⟨g, cap, rfl, h1, h3, by omega⟩

theorem SB.none12 {w : World} (a : Option Addr) (c : Nat) (hc : c ≤ 9223372036854775807) (ha : a = none → c = 0) : SB w (.slice a 0 c) [] :=
  ⟨a, c, rfl, Nat.zero_le _, by unfold maxLen; omega, ha, fun x hx i hi => by simp at hi⟩

set_option maxHeartbeats 4000000 in
theorem getDescriptor_any (v : Value) (d : List Int) (at' : Int) (l : Loc) (ok : l.Ok) (w : World) (h : SB w v d) (hB : Byt d) (h64 : Ok64 at') (hd : d.length ≤ 140737488355328) :
    Calls Try.prog 10 #[v, .int .i64 at', l.v] w fun e w' => e = .returned (.tuple #[.int .i64 (gdN d at' l), .int .i64 (gdE d at' l)]) ∧ Below w.heap.size w w' := by
  obtain ⟨ao, cap, rfl, q1, q2, q3⟩ := h.open11
  have HS := hide h
  have HBy := hide hB
  have HN0 : Hid (ao = none → cap = 0) := by
    obtain ⟨ao', cap', he, _, _, h3, _⟩ := h
    simp only [Value.slice.injEq] at he
    obtain ⟨rfl, -, rfl⟩ := he
    exact h3
  obtain ⟨u0, u1⟩ := h64
  obtain ⟨wb, hwb⟩ : ∃ wb, w.alloc (.cells l.cs 25) = wb := ⟨_, rfl⟩
  have HB : Hid (Below w.heap.size w wb) := by rw [← hwb]; exact (Below.refl _ _).alloc (Nat.le_refl _) _
  have hN : wb.heap[w.heap.size]? = some (.cells l.cs 25 (0, 0)) := by rw [← hwb]; exact heap_alloc_new w _
  obtain ⟨lv, hlv⟩ : ∃ lv, lv = l := ⟨_, rfl⟩
  have HKL : Hid (lv.Ok) := by rw [hlv]; exact ok
  have HD : Hid (gdN d at' l = gdN d at' lv ∧ gdE d at' l = gdE d at' lv) := by rw [hlv]; exact ⟨rfl, rfl⟩
  rw [HD.out.1, HD.out.2]
  cases l with
  | mk a0 a1 a2 a3 a4 a5 a6 a7 a8 a9 =>
  simp only [Loc.cs] at hN hwb
  have HV : Hid (lv.v = .agg #[.int .i64 a0, .int .i64 a1, .int .i64 a2, .int .i64 a3, .int .i64 a4, .int .u32 a5, .int .i64 a6, .int .i64 a7, .string a8, .string a9]) := by rw [hlv]; rfl
  simp only [Loc.v, Loc.cs]
  clear HD ok hlv h hB
  by_cases h0 : at' < 0
  · have HE : Hid (gdN d at' lv = 0 ∧ gdE d at' lv = 1) := by unfold gdN gdE; rw [if_pos (.inl h0), if_pos (.inl h0)]; exact ⟨rfl, rfl⟩
    clear hN q3
    go_enter Try.func10, Try.ntmps10
    go_wp2
    go_ret2
    rw [HE.out.1, HE.out.2]
    exact ⟨rfl, HB.out⟩
  by_cases h1 : (d.length : Int) < at'
  · have HE : Hid (gdN d at' lv = 0 ∧ gdE d at' lv = 1) := by unfold gdN gdE; rw [if_pos (.inr h1), if_pos (.inr h1)]; exact ⟨rfl, rfl⟩
    clear hN q3
    go_enter Try.func10, Try.ntmps10
    go_wp2
    go_ret2
    rw [HE.out.1, HE.out.2]
    exact ⟨rfl, HB.out⟩
  obtain ⟨k, rfl⟩ : ∃ k : Nat, at' = k := ⟨at'.toNat, by omega⟩
  have hk : k ≤ d.length := by omega
  have h1' : ¬ (d.length : Int) < (k : Int) := h1
  obtain ⟨c0, c1, c2, c3, c4, c5, c6, c7, c8, c9⟩ := box10 hN
  have HNE : Hid (gdN d k lv = (if ¬ fitI (dsI lv true) then 0 else if pfx (d.drop k) (rowI (dsI lv true)) then 16 else if pfx (d.drop k) (rowI (dsI lv false)) then 12 else 0)
      ∧ gdE d k lv = (if ¬ fitI (dsI lv true) then 124 else if pfx (d.drop k) (rowI (dsI lv true)) then 0 else if pfx (d.drop k) (rowI (dsI lv false)) then 0 else if (d.length : Int) - k < 12 then 122 else 123)) := by
    have hx : ¬ ((k : Int) < 0 ∨ (d.length : Int) < (k : Int)) := by omega
    unfold gdN gdE
    rw [if_neg hx, if_neg hx]
    exact ⟨rfl, rfl⟩
  clear hN h0 h1
  by_cases hf : fitI (dsI lv true)
  case neg =>
    have HE : Hid (gdN d k lv = 0 ∧ gdE d k lv = 124) := by rw [HNE.out.1, HNE.out.2, if_pos hf, if_pos hf]; exact ⟨rfl, rfl⟩
    have hp : puE (dsI lv true) = 124 := if_neg hf
    clear HNE hf
    go_enter Try.func10, Try.ntmps10
    go_wp2_with fail
    rw [← HV.out]
    refine (putDescriptor_any lv HKL.out true _).mono ?_
    rintro e w1 ⟨a, c, rfl, ho, hb⟩
    rw [hp]
    have HB2 := hide hb
    clear ho hb c0 c1 c2 c3 c4 c5 c6 c7 c8 c9 hp
    go_wp2
    go_ret2
    rw [HE.out.1, HE.out.2]
    exact ⟨rfl, HB.out.trans (HB2.out.mono HB.out.size)⟩
  case pos =>
  have HE : Hid (gdN d k lv = (if pfx (d.drop k) (rowI (dsI lv true)) then 16 else if pfx (d.drop k) (rowI (dsI lv false)) then 12 else 0)
      ∧ gdE d k lv = (if pfx (d.drop k) (rowI (dsI lv true)) then 0 else if pfx (d.drop k) (rowI (dsI lv false)) then 0 else if (d.length : Int) - k < 12 then 122 else 123)) := by
    have hf' : ¬ ¬ fitI (dsI lv true) := fun x => x hf
    rw [HNE.out.1, HNE.out.2, if_neg hf', if_neg hf']
    exact ⟨rfl, rfl⟩
  have hp : puE (dsI lv true) = 0 := if_pos hf
  have hr : puL (dsI lv true) = rowI (dsI lv true) := if_pos hf
  have HBT := hide (byt_rowI (dsI lv true))
  have HBF := hide (byt_rowI (dsI lv false))
  have HBA := hide (ds_bare lv)
  obtain ⟨l16, l12⟩ := ds_len lv
  obtain ⟨S, HSS⟩ : ∃ S, Hid (S = rowI (dsI lv true)) := ⟨_, rfl⟩
  obtain ⟨F, HFF⟩ : ∃ F, Hid (F = rowI (dsI lv false)) := ⟨_, rfl⟩
  rw [← HSS.out] at l16 HBT HBA HE hr
  rw [← HFF.out] at l12 HBF HBA HE
  have HBD := hide (byt_drop HBy.out k)
  obtain ⟨D, HDD⟩ : ∃ D, Hid (D = d.drop k) := ⟨_, rfl⟩
  rw [← HDD.out] at HBD HE
  have HDl : Hid (D.length = d.length - k) := by show _ = _; rw [HDD.out, List.length_drop]
  clear HNE hf
  by_cases hkl : k < d.length
  · obtain ⟨b, o, rfl⟩ := q3 (by omega)
    have HT : Hid (SB w (.slice (some ⟨b, o + k, none⟩) (d.length - k) (cap - k)) D) := by rw [HDD.out]; exact HS.out.rest11 hk
    have z1 : ¬ cap = k := by omega
    have z2 : k ≤ cap := by omega
    clear HS q3
    go_enter Try.func10, Try.ntmps10
    go_wp2_with fail
    rw [← HV.out]
    refine (putDescriptor_any lv HKL.out true _).mono ?_
    rintro e w1 ⟨a, c, rfl, ho, hb⟩
    rw [hp]
    rw [hr] at ho ⊢
    obtain ⟨g, c', he, hg0, hg1, hg2⟩ := ho.form12 (by omega)
    simp only [Value.slice.injEq] at he
    obtain ⟨rfl, -, rfl⟩ := he
    have HSP : Hid (SB w1 (.slice (some ⟨g, 0, none⟩) S.length c) S) := ho.sb
    have HBR : Hid (SB w1 (.slice (some ⟨g, 4, none⟩) 12 (c - 4)) F) := by
      have := HSP.out.rest11 (n := 4) (by omega)
      rw [HBA.out, l16] at this
      show SB _ _ _
      simpa using this
    have HTH : Hid (SB w1 (.slice (some ⟨b, o + k, none⟩) (d.length - k) (cap - k)) D) := SB.below (SB.below HT.out HB.out) hb
    have HB2 := hide hb
    rw [l16] at HSP hg1 ⊢
    have g4 : ¬ c = 4 := by omega
    have g5 : 4 ≤ c := by omega
    clear ho hb c0 c1 c2 c3 c4 c5 c6 c7 c8 c9 hp hr l16
    go_wp2
    go_quiet (fail)
    go_wp2_with fail
    have HW : Hid (Below w.heap.size w (w1.drewN nq)) := below_drewN (HB.out.trans (HB2.out.mono HB.out.size)) nq
    have HP1 := hide (hasPrefix_any _ _ D S (w1.drewN nq) HTH.out HSP.out HBD.out HBT.out)
    have HP2 := hide (hasPrefix_any _ _ D F (w1.drewN nq) HTH.out HBR.out HBD.out HBF.out)
    refine HP1.out.mono ?_
    rintro e w2 ⟨rfl, rfl⟩
    by_cases t1 : pfx D S = true
    · rw [t1]
      have HEE : Hid (gdN d k lv = 16 ∧ gdE d k lv = 0) := by rw [HE.out.1, HE.out.2, if_pos t1, if_pos t1]; exact ⟨rfl, rfl⟩
      clear HE
      go_wp2
      go_ret2
      rw [HEE.out.1, HEE.out.2]
      exact ⟨rfl, HW.out⟩
    · have t1' : pfx D S = false := by simpa using t1
      rw [t1']
      go_wp2_with fail
      refine HP2.out.mono ?_
      rintro e w3 ⟨rfl, rfl⟩
      by_cases t2 : pfx D F = true
      · rw [t2]
        have HEE : Hid (gdN d k lv = 12 ∧ gdE d k lv = 0) := by rw [HE.out.1, HE.out.2, if_neg t1, if_neg t1, if_pos t2, if_pos t2]; exact ⟨rfl, rfl⟩
        clear HE
        go_wp2
        go_ret2
        rw [HEE.out.1, HEE.out.2]
        exact ⟨rfl, HW.out⟩
      · have t2' : pfx D F = false := by simpa using t2
        rw [t2']
        by_cases t3 : (d.length : Int) - k < 12
        · have HEE : Hid (gdN d k lv = 0 ∧ gdE d k lv = 122) := by rw [HE.out.1, HE.out.2, if_neg t1, if_neg t1, if_neg t2, if_neg t2, if_pos t3]; exact ⟨rfl, rfl⟩
          clear HE
          have t4 : ((d.length - k : Nat) : Int) < 12 := by omega
          go_wp2
          go_ret2
          rw [HEE.out.1, HEE.out.2]
          exact ⟨rfl, HW.out⟩
        · have HEE : Hid (gdN d k lv = 0 ∧ gdE d k lv = 123) := by rw [HE.out.1, HE.out.2, if_neg t1, if_neg t1, if_neg t2, if_neg t2, if_neg t3]; exact ⟨rfl, rfl⟩
          clear HE
          have t4 : ¬ ((d.length - k : Nat) : Int) < 12 := by omega
          go_wp2
          go_ret2
          rw [HEE.out.1, HEE.out.2]
          exact ⟨rfl, HW.out⟩
  obtain rfl : k = d.length := by omega
  have z0 : D = [] := List.eq_nil_of_length_eq_zero (by rw [HDl.out]; omega)
  by_cases z1 : cap = d.length
  · have HT : Hid (SB w (.slice ao 0 0) D) := by
      show SB _ _ _
      rw [z0]
      exact SB.none12 ao 0 (by omega) (fun _ => rfl)
    clear HS q3 HDD HDl
    go_enter Try.func10, Try.ntmps10
    go_wp2_with fail
    rw [← HV.out]
    refine (putDescriptor_any lv HKL.out true _).mono ?_
    rintro e w1 ⟨a, c, rfl, ho, hb⟩
    rw [hp]
    rw [hr] at ho ⊢
    obtain ⟨g, c', he, hg0, hg1, hg2⟩ := ho.form12 (by omega)
    simp only [Value.slice.injEq] at he
    obtain ⟨rfl, -, rfl⟩ := he
    have HSP : Hid (SB w1 (.slice (some ⟨g, 0, none⟩) S.length c) S) := ho.sb
    have HBR : Hid (SB w1 (.slice (some ⟨g, 4, none⟩) 12 (c - 4)) F) := by
      have := HSP.out.rest11 (n := 4) (by omega)
      rw [HBA.out, l16] at this
      show SB _ _ _
      simpa using this
    have HTH : Hid (SB w1 (.slice ao 0 0) D) := SB.below (SB.below HT.out HB.out) hb
    have HB2 := hide hb
    rw [l16] at HSP hg1 ⊢
    have g4 : ¬ c = 4 := by omega
    have g5 : 4 ≤ c := by omega
    clear ho hb c0 c1 c2 c3 c4 c5 c6 c7 c8 c9 hp hr l16
    go_wp2
    go_quiet (fail)
    go_wp2_with fail
    have HW : Hid (Below w.heap.size w (w1.drewN nq)) := below_drewN (HB.out.trans (HB2.out.mono HB.out.size)) nq
    have HP1 := hide (hasPrefix_any _ _ D S (w1.drewN nq) HTH.out HSP.out HBD.out HBT.out)
    have HP2 := hide (hasPrefix_any _ _ D F (w1.drewN nq) HTH.out HBR.out HBD.out HBF.out)
    refine HP1.out.mono ?_
    rintro e w2 ⟨rfl, rfl⟩
    by_cases t1 : pfx D S = true
    · rw [t1]
      have HEE : Hid (gdN d d.length lv = 16 ∧ gdE d d.length lv = 0) := by rw [HE.out.1, HE.out.2, if_pos t1, if_pos t1]; exact ⟨rfl, rfl⟩
      clear HE
      go_wp2
      go_ret2
      rw [HEE.out.1, HEE.out.2]
      exact ⟨rfl, HW.out⟩
    · have t1' : pfx D S = false := by simpa using t1
      rw [t1']
      go_wp2_with fail
      refine HP2.out.mono ?_
      rintro e w3 ⟨rfl, rfl⟩
      by_cases t2 : pfx D F = true
      · rw [t2]
        have HEE : Hid (gdN d d.length lv = 12 ∧ gdE d d.length lv = 0) := by rw [HE.out.1, HE.out.2, if_neg t1, if_neg t1, if_pos t2, if_pos t2]; exact ⟨rfl, rfl⟩
        clear HE
        go_wp2
        go_ret2
        rw [HEE.out.1, HEE.out.2]
        exact ⟨rfl, HW.out⟩
      · have t2' : pfx D F = false := by simpa using t2
        rw [t2']
        by_cases t3 : (d.length : Int) - d.length < 12
        · have HEE : Hid (gdN d d.length lv = 0 ∧ gdE d d.length lv = 122) := by rw [HE.out.1, HE.out.2, if_neg t1, if_neg t1, if_neg t2, if_neg t2, if_pos t3]; exact ⟨rfl, rfl⟩
          clear HE
          go_wp2
          go_ret2
          rw [HEE.out.1, HEE.out.2]
          exact ⟨rfl, HW.out⟩
        · have HEE : Hid (gdN d d.length lv = 0 ∧ gdE d d.length lv = 123) := by rw [HE.out.1, HE.out.2, if_neg t1, if_neg t1, if_neg t2, if_neg t2, if_neg t3]; exact ⟨rfl, rfl⟩
          clear HE
          omega
  · have HT : Hid (SB w (.slice (ao.map fun x => x.add d.length) 0 (cap - d.length)) D) := by
      show SB _ _ _
      rw [z0]
      exact SB.none12 _ _ (by omega) (fun e => by cases ao with
        | none => have := HN0.out rfl; omega
        | some x => cases e)
    cases ao with
    | none => have := HN0.out rfl; omega
    | some x =>
    simp only [Option.map] at HT
    clear HS q3 HDD HDl
    go_enter Try.func10, Try.ntmps10
    go_wp2_with fail
    rw [← HV.out]
    refine (putDescriptor_any lv HKL.out true _).mono ?_
    rintro e w1 ⟨a, c, rfl, ho, hb⟩
    rw [hp]
    rw [hr] at ho ⊢
    obtain ⟨g, c', he, hg0, hg1, hg2⟩ := ho.form12 (by omega)
    simp only [Value.slice.injEq] at he
    obtain ⟨rfl, -, rfl⟩ := he
    have HSP : Hid (SB w1 (.slice (some ⟨g, 0, none⟩) S.length c) S) := ho.sb
    have HBR : Hid (SB w1 (.slice (some ⟨g, 4, none⟩) 12 (c - 4)) F) := by
      have := HSP.out.rest11 (n := 4) (by omega)
      rw [HBA.out, l16] at this
      show SB _ _ _
      simpa using this
    have HTH : Hid (SB w1 (.slice (some (x.add d.length)) 0 (cap - d.length)) D) := SB.below (SB.below HT.out HB.out) hb
    have HB2 := hide hb
    rw [l16] at HSP hg1 ⊢
    have g4 : ¬ c = 4 := by omega
    have g5 : 4 ≤ c := by omega
    clear ho hb c0 c1 c2 c3 c4 c5 c6 c7 c8 c9 hp hr l16
    go_wp2
    go_quiet (fail)
    go_wp2_with fail
    have HW : Hid (Below w.heap.size w (w1.drewN nq)) := below_drewN (HB.out.trans (HB2.out.mono HB.out.size)) nq
    have HP1 := hide (hasPrefix_any _ _ D S (w1.drewN nq) HTH.out HSP.out HBD.out HBT.out)
    have HP2 := hide (hasPrefix_any _ _ D F (w1.drewN nq) HTH.out HBR.out HBD.out HBF.out)
    refine HP1.out.mono ?_
    rintro e w2 ⟨rfl, rfl⟩
    by_cases t1 : pfx D S = true
    · rw [t1]
      have HEE : Hid (gdN d d.length lv = 16 ∧ gdE d d.length lv = 0) := by rw [HE.out.1, HE.out.2, if_pos t1, if_pos t1]; exact ⟨rfl, rfl⟩
      clear HE
      go_wp2
      go_ret2
      rw [HEE.out.1, HEE.out.2]
      exact ⟨rfl, HW.out⟩
    · have t1' : pfx D S = false := by simpa using t1
      rw [t1']
      go_wp2_with fail
      refine HP2.out.mono ?_
      rintro e w3 ⟨rfl, rfl⟩
      by_cases t2 : pfx D F = true
      · rw [t2]
        have HEE : Hid (gdN d d.length lv = 12 ∧ gdE d d.length lv = 0) := by rw [HE.out.1, HE.out.2, if_neg t1, if_neg t1, if_pos t2, if_pos t2]; exact ⟨rfl, rfl⟩
        clear HE
        go_wp2
        go_ret2
        rw [HEE.out.1, HEE.out.2]
        exact ⟨rfl, HW.out⟩
      · have t2' : pfx D F = false := by simpa using t2
        rw [t2']
        by_cases t3 : (d.length : Int) - d.length < 12
        · have HEE : Hid (gdN d d.length lv = 0 ∧ gdE d d.length lv = 122) := by rw [HE.out.1, HE.out.2, if_neg t1, if_neg t1, if_neg t2, if_neg t2, if_pos t3]; exact ⟨rfl, rfl⟩
          clear HE
          go_wp2
          go_ret2
          rw [HEE.out.1, HEE.out.2]
          exact ⟨rfl, HW.out⟩
        · have HEE : Hid (gdN d d.length lv = 0 ∧ gdE d d.length lv = 123) := by rw [HE.out.1, HE.out.2, if_neg t1, if_neg t1, if_neg t2, if_neg t2, if_neg t3]; exact ⟨rfl, rfl⟩
          clear HE
          omega
end Go.Proofs.Ytjjepgkcgbbmhaa

