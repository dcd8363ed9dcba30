import Derived.Test.YtiabhmdefaabgabDoorGSml
namespace Go.Proofs.YtiabhmdefaabgabDoor
open Go.RowKit Go.Maps
set_option maxRecDepth 20000
set_option linter.unusedVariables false

theorem gsm_bound {C : List Int} (hC : ∀ s, 0 ≤ C.getD s 0 ∧ C.getD s 0 ≤ 15) (R : List Rn) : 0 ≤ gsm C R ∧ gsm C R ≤ 15 * R.length := by
  induction R with
  | nil => simp [gsm]
  | cons r R ih =>
    have := hC r.1.toNat
    simp only [gsm, List.length_cons]
    omega

theorem mk_facts {l d : List Int} (h : mkE l d = 0) : l.length ≤ 286 ∧ d.length ≤ 30 ∧ 257 ≤ (mkL l).length ∧ (mkL l).length ≤ 286 ∧ 1 ≤ (mkD d).length ∧ (mkD d).length ≤ 30 ∧ (∀ x ∈ mkL l ++ mkD d, 0 ≤ x ∧ x ≤ 15) ∧ (∀ r ∈ mkR l d, Okr r) ∧ (mkR l d).length ≤ 316 ∧ (mkL l).getD 256 0 ≠ 0 := by
  unfold mkE at h
  by_cases hb : 286 < l.length ∨ 30 < d.length ∨ wthb l = false ∨ wthb d = false
  · rw [if_pos hb] at h; omega
  · rw [if_neg hb] at h
    have w1 : wthb l = true := by cases q : wthb l with
      | true => rfl
      | false => exact absurd (.inr (.inr (.inl q))) hb
    have w2 : wthb d = true := by cases q : wthb d with
      | true => rfl
      | false => exact absurd (.inr (.inr (.inr q))) hb
    have h1 := trm_lens (l := l) (f := 257) (by omega) (by omega)
    have h2 := trm_lens (l := d) (f := 1) (by omega) (by omega)
    have h3 : ∀ x ∈ mkL l ++ mkD d, 0 ≤ x ∧ x ≤ 15 := fun x hx => by
      rcases List.mem_append.1 hx with q | q
      · exact trm_all l 257 (wth_iff.1 w1) x q
      · exact trm_all d 1 (wth_iff.1 w2) x q
    have h4 := rns_len (mkL l ++ mkD d)
    rw [List.length_append] at h4
    have h5 : (mkL l).getD 256 0 ≠ 0 := fun q => by unfold hck at h; rw [if_pos (.inl q)] at h; omega
    unfold mkL mkD at *
    exact ⟨by omega, by omega, h1.1, by omega, h2.1, by omega, h3, rns_ok h3, by unfold mkR mkL mkD; omega, h5⟩

theorem run1_first {l : List Int} (h : 1 ≤ l.length) : 0 < (rns l).length := by
  have := run1_cnt (l := l) (k := 0) (by omega)
  obtain ⟨c, hc, _⟩ := this
  rw [← rnK_zero, rnK_step (by omega) hc]
  simp

end Go.Proofs.YtiabhmdefaabgabDoor

