import Derived.Test.YtiabhmdefaabgabDoorGRw3
namespace Go.Proofs.YtiabhmdefaabgabDoor
open Go.RowKit Go.Maps
set_option maxRecDepth 20000
set_option linter.unusedVariables false

theorem lay_more (a : List Int) (k : Nat) (x : Int) : a ++ List.replicate (k + 1) x = (a ++ List.replicate k x) ++ [x] := by
  rw [List.replicate_succ', List.append_assoc]

set_option maxHeartbeats 1000000 in
theorem layr_any (u : Value) (acc : List Int) (s : Int) (c : Nat) (w : World) (B : Nat) (h : OI w B u acc) (hB : B ≤ w.heap.size) (h16 : s = 16 → 0 < acc.length) (hc : c ≤ 138) (hl : acc.length ≤ 1000000000) :
    Calls Tryd.prog 75 #[u, .agg #[.int .i64 s, .int .i64 c]] w fun e w' => ∃ u', e = .returned u' ∧ OI w' B u' (lay acc (s, (c : Int))) ∧ Below B w w' := by
  have HO := hide h
  obtain ⟨a, p, rfl⟩ := h.shape
  have HM := hide (meant_any s (.slice a acc.length p) acc (w.alloc (.cells #[.int .i64 s, .int .i64 c] 87)) (h.alloc _).sb h16)
  obtain ⟨V, HV⟩ : ∃ V, Hid (V = mnt s acc) := ⟨_, rfl⟩
  have HL : Hid (lay acc (s, (c : Int)) = acc ++ List.replicate c V) := by show _ = _; unfold lay; rw [HV.out]; rfl
  rw [← HV.out] at HM
  clear h h16
  go_enter Tryd.func75, Tryd.ntmps75
  go_wp2_with fail
  refine HM.out.mono ?_
  rintro e w1 ⟨rfl, hw1⟩
  subst hw1
  obtain ⟨w1, hw1⟩ : ∃ w1, w.alloc (.cells #[.int .i64 s, .int .i64 c] 87) = w1 := ⟨_, rfl⟩
  have HO1 : Hid (OI w1 B (.slice a acc.length p) acc) := by rw [← hw1]; exact hide (HO.out.alloc _)
  have HB1 : Hid (Below B w w1) := by rw [← hw1]; exact hide ((Below.refl _ _).alloc hB _)
  have cc : w1.cell? ⟨w.heap.size, 1, none⟩ = some (.int .i64 c) := by rw [← hw1]; unfold World.cell?; simp only [heap_alloc_new]; rfl
  rw [hw1]
  clear HM hw1
  go_wp2
  go_loopw [0, 12] (fun x i wr => ∃ k : Nat, k ≤ c ∧ i = .int .i64 k ∧ Hid (OI wr B x (acc ++ List.replicate k V)) ∧ Hid (Below B w wr)) (fun _ i _ => c - (intOf i).toNat)
  case atStart => exact ⟨0, Nat.zero_le _, rfl, by show OI _ _ _ _; simp only [List.replicate_zero, List.append_nil]; exact HO1.out, HB1.out⟩
  case round =>
    obtain ⟨k, hk, rfl, HX, HB⟩ := hrel
    by_cases hlt : k < c
    · have hlt' : (k : Int) < (c : Int) := by omega
      have HD := hide (lay_more acc k V)
      obtain ⟨D, HDD⟩ : ∃ D : List Int, Hid (D = acc ++ List.replicate k V) := ⟨_, hide rfl⟩
      have hDl : D.length ≤ 2000000000 := by rw [HDD.out, List.length_append, List.length_replicate]; omega
      rw [← HDD.out] at HX HD
      have hBw := HB.out.size
      obtain ⟨a2, p2, hu⟩ := HX.out.shape
      subst hu
      have HALC : Hid (OI (wr.alloc (.cells #[.int .i64 V] 3)) B (.slice a2 D.length p2) D) := HX.out.alloc _
      have HSR : Hid (Src Tryd.prog 1 22 (.slice (some ⟨wr.heap.size, 0, none⟩) 1 1) ([V] : List Int).length (([V] : List Int).map (Value.int .i64)) (wr.alloc (.cells #[.int .i64 V] 3))) := built_srcI wr [V]
      go_wp2_with (at_builtin; refine wpList_appI rfl _ _ 22 rfl B _ _ D [V] rfl HALC.out rfl HSR.out (by simp; omega) (by simp; omega) ?_)
      intro v3 w3 ho3 hgr3
      have HN : Hid (OI w3 B v3 (acc ++ List.replicate (k + 1) V) ∧ Below B w w3) := ⟨by rw [HD.out]; exact ho3, grow_one7 HB.out hB HX.out hgr3⟩
      clear ho3 hgr3
      go_wp2
      go_roundw
      case rel => exact ⟨k + 1, by omega, by go_num, HN.out.1, HN.out.2⟩
      case measure => simp [intOf]; omega
    · obtain rfl : k = c := by omega
      have hlt' : ¬ (k : Int) < (k : Int) := by omega
      have HF : Hid (OI wr B u0 (lay acc (s, (k : Int)))) := by show OI _ _ _ _; rw [HL.out]; exact HX.out
      clear HX
      obtain ⟨a2, p2, hu⟩ := HF.out.shape
      subst hu
      go_wp2
      go_ret
      exact ⟨_, rfl, HF.out, HB.out⟩

/-- How many lengths runs stand for. -/
def tot (R : List Rn) : Nat := (lays [] R).length

theorem tot_snoc (R : List Rn) (p : Rn) : tot (R ++ [p]) = tot R + p.2.toNat := by unfold tot; rw [lays_snoc, lay_len]
theorem rn_snoc {R : List Rn} {k : Nat} (h : k < R.length) : R.take (k + 1) = R.take k ++ [R.getD k rn0] := by
  rw [List.take_succ_eq_append_getElem h]
  simp [h]

theorem xpE_snoc : ∀ (S : List Rn) (a : List Int) (r : Rn), xpE a S = 0 → xpE a (S ++ [r]) = if Okr r then if r.1 = 16 ∧ lays a S = [] then 73 else 0 else 77
  | [], a, r, _ => rfl
  | q :: S, a, r, h => by
    simp only [xpE] at h
    by_cases h1 : Okr q
    · rw [if_pos h1] at h
      by_cases h2 : q.1 = 16 ∧ a = []
      · rw [if_pos h2] at h; omega
      · rw [if_neg h2] at h
        have := xpE_snoc S (lay a q) r h
        simp only [List.cons_append, xpE]
        rw [if_pos h1, if_neg h2]
        exact this
    · rw [if_neg h1] at h; omega

theorem xpE_front : ∀ (S T : List Rn) (a : List Int), xpE a S ≠ 0 → xpE a (S ++ T) = xpE a S
  | [], T, a, h => absurd rfl h
  | q :: S, T, a, h => by
    simp only [List.cons_append, xpE] at h ⊢
    by_cases h1 : Okr q
    · rw [if_pos h1] at h ⊢
      by_cases h2 : q.1 = 16 ∧ a = []
      · rw [if_pos h2]; rw [if_pos h1, if_pos h2]
      · rw [if_neg h2] at h ⊢
        rw [if_pos h1, if_neg h2]
        exact xpE_front S T (lay a q) h
    · rw [if_neg h1, if_neg h1]

/-- The first run that has an error tells it. -/
theorem xpE_at {R : List Rn} {k : Nat} (hk : k < R.length) (h0 : xpE [] (R.take k) = 0) :
    (¬ Okr (R.getD k rn0) → xpE [] R = 77) ∧ (Okr (R.getD k rn0) → (R.getD k rn0).1 = 16 → tot (R.take k) = 0 → xpE [] R = 73) ∧ (Okr (R.getD k rn0) → ((R.getD k rn0).1 = 16 → tot (R.take k) ≠ 0) → xpE [] (R.take (k + 1)) = 0) := by
  have e := xpE_snoc (R.take k) [] (R.getD k rn0) h0
  rw [← rn_snoc hk] at e
  have ez : lays [] (R.take k) = [] ↔ tot (R.take k) = 0 := by unfold tot; exact List.length_eq_zero_iff.symm
  have key : xpE [] (R.take (k + 1)) ≠ 0 → xpE [] R = xpE [] (R.take (k + 1)) := fun h => by
    have := xpE_front (R.take (k + 1)) (R.drop (k + 1)) [] h
    rwa [List.take_append_drop] at this
  refine ⟨fun h => ?_, fun h h1 h2 => ?_, fun h h1 => ?_⟩
  · rw [if_neg h] at e
    rw [key (by omega), e]
  · rw [if_pos h, if_pos ⟨h1, ez.2 h2⟩] at e
    rw [key (by omega), e]
  · rw [if_pos h, if_neg (fun q => h1 q.1 (ez.1 q.2))] at e
    exact e

theorem okr_parts {r : Rn} (h : Okr r) : ∃ s c : Nat, r = ((s : Int), (c : Int)) ∧ s < 19 ∧ lst s ≤ c ∧ (c : Int) ≤ mst s ∧ 1 ≤ c ∧ c ≤ 138 := by
  obtain ⟨a, b⟩ := r
  obtain ⟨h1, h2, h3, h4⟩ := h
  simp only at h1 h2 h3 h4
  obtain ⟨s, rfl⟩ := Int.eq_ofNat_of_zero_le h1
  have hs : s < 19 := by omega
  have hb : 1 ≤ b ∧ b ≤ 138 := by
    rcases tab_cases s hs with ⟨x, _, y⟩ | ⟨x, _, y⟩ | ⟨x, _, y⟩ | ⟨x, _, y⟩ <;> rw [x] at h3 <;> rw [y] at h4 <;> omega
  obtain ⟨c, rfl⟩ := Int.eq_ofNat_of_zero_le (show 0 ≤ b by omega)
  exact ⟨s, c, rfl, hs, h3, h4, by omega, by omega⟩

theorem tot_lem {R : List Rn} (h : xpE [] R = 0) : ∀ k, k ≤ R.length → xpE [] (R.take k) = 0 ∧ tot (R.take k) ≤ 138 * k := by
  intro k
  induction k with
  | zero => intro _; exact ⟨rfl, by simp [tot, lays]⟩
  | succ k ih =>
    intro hk
    obtain ⟨i1, i2⟩ := ih (by omega)
    obtain ⟨x1, x2, x3⟩ := xpE_at (k := k) (by omega) i1
    by_cases ok : Okr (R.getD k rn0)
    · obtain ⟨s, c, e, _, _, _, _, hc⟩ := okr_parts ok
      by_cases z : (R.getD k rn0).1 = 16 ∧ tot (R.take k) = 0
      · have := x2 ok z.1 z.2; omega
      · refine ⟨x3 ok (fun q q2 => z ⟨q, q2⟩), ?_⟩
        rw [rn_snoc (by omega), tot_snoc, e]
        simp only [Int.toNat_natCast]
        omega
    · have := x1 ok; omega

end Go.Proofs.YtiabhmdefaabgabDoor

