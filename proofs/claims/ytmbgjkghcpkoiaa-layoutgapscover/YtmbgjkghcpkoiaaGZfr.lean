import Derived.Test.YtmbgjkghcpkoiaaGGaw
namespace Go.Proofs.Ytmbgjkghcpkoiaa
open Go.RowKit Go.Maps
set_option maxRecDepth 20000
set_option linter.unusedVariables false
set_option linter.unusedSimpArgs false

def Cvr (p : Int) (e : Int × Int) : Prop := e.1 ≤ p ∧ p < e.2
instance (p : Int) (e : Int × Int) : Decidable (Cvr p e) := inferInstanceAs (Decidable (_ ∧ _))
theorem eS_get {R : List Ent} {i : Nat} (h : i < R.length) : (R.map eS).getD i (0, 0) = eS (R.getD i Ent.zero) := by simp [List.getD, h]
def FrA (E : List (Int × Int)) (d p : Int) (e : Ending) : Prop := ∃ b : Bool, e = .returned (.bool b) ∧ (b = true ↔ Fre E d p)
theorem memP {α : Type} {L : List α} {i : Nat} {x : α} (h : i < L.length) : L.getD i x ∈ L := by simp [List.getD, h]
theorem none_all {E : List (Int × Int)} {p : Int} (h : ∀ i, i < E.length → ¬ Cvr p (E.getD i (0, 0))) : ∀ e ∈ E, ¬ (e.1 ≤ p ∧ p < e.2) := fun e he => by
  obtain ⟨i, hi, rfl⟩ := List.getElem_of_mem he
  have := h i hi
  simpa [List.getD, hi, Cvr] using this

set_option maxHeartbeats 8000000 in
theorem zfree_any (v : Value) (R : List Ent) (d s p : Int) (cm : ByteArray) (w : World) (h : SR 20 w v (R.map Ent.cs)) :
    Calls Try.prog 17 #[.agg #[v, .int .i64 d, .int .i64 s, .string cm], .int .i64 p] w fun e w' => FrA (R.map eS) d p e ∧ Below w.heap.size w w' := by
  have HL := hide h
  obtain ⟨ca, ccap, rfl, c1, c2⟩ := h.open
  rw [List.length_map] at c1
  have elc : (R.map Ent.cs).length = R.length := List.length_map ..
  rw [elc] at HL ⊢
  clear h elc
  have hb1 : Below w.heap.size w (w.alloc (.cells #[.slice ca R.length ccap, .int .i64 d, .int .i64 s, .string cm] 24)) := (Below.refl _ _).alloc (Nat.le_refl _) _
  have hx1 : (w.alloc (.cells #[.slice ca R.length ccap, .int .i64 d, .int .i64 s, .string cm] 24)).heap[w.heap.size]? = some (.cells #[.slice ca R.length ccap, .int .i64 d, .int .i64 s, .string cm] 24) := heap_alloc_new _ _
  obtain ⟨w1, hw1⟩ : ∃ y, w.alloc (.cells #[.slice ca R.length ccap, .int .i64 d, .int .i64 s, .string cm] 24) = y := ⟨_, rfl⟩
  rw [hw1] at hb1 hx1
  have q0 : w1.cell? ⟨w.heap.size, 0, none⟩ = some (.slice ca R.length ccap) := by simp [World.cell?, hx1]
  have q1 : w1.cell? ⟨w.heap.size, 1, none⟩ = some (.int .i64 d) := by simp [World.cell?, hx1]
  have HB1 := hide hb1
  have HR1 := hide (HL.out.low hb1)
  clear hb1 hx1
  by_cases h0 : p < 0
  · have HN : Hid (¬ Fre (R.map eS) d p) := fun q => by have := q.1; omega
    go_enter Try.func17, Try.ntmps17
    go_wp2
    go_ret
    exact ⟨⟨false, rfl, ⟨fun q => (by cases q), fun q => absurd q HN.out⟩⟩, HB1.out⟩
  by_cases h1 : d ≤ p
  · have HN : Hid (¬ Fre (R.map eS) d p) := fun q => by have := q.2.1; omega
    go_enter Try.func17, Try.ntmps17
    go_wp2
    go_ret
    exact ⟨⟨false, rfl, ⟨fun q => (by cases q), fun q => absurd q HN.out⟩⟩, HB1.out⟩
  go_enter Try.func17, Try.ntmps17
  go_wp2
  go_loopw [5] (fun i wr => ∃ (j n : Nat), i = .int .i64 (j : Int) ∧ j ≤ R.length ∧ Hid (∀ i, i < j → ¬ Cvr p ((R.map eS).getD i (0, 0))) ∧ wr = w1.drewN n) (fun i _ => R.length - (intOf i).toNat)
  case atStart => exact ⟨0, 0, rfl, Nat.zero_le _, fun i hi => absurd hi (Nat.not_lt_zero _), rfl⟩
  case round =>
    obtain ⟨j, n, rfl, hj, HC, rfl⟩ := hrel
    by_cases hlt : j < R.length
    · have hlt' : (j : Int) < (R.length : Int) := by omega
      obtain ⟨b0, o0, hla, hbl, hrg⟩ := srLt HR1.out (i := j) (by rw [List.length_map]; exact hlt)
      rw [csN_get hlt] at hrg
      have HEG := hide (eS_get hlt)
      obtain ⟨l, hl⟩ : ∃ l, l = R.getD j Ent.zero := ⟨_, rfl⟩
      rw [← hl] at hrg HEG
      have g17 := range_cell hrg (i := 17) (u := .int .i64 l.frm) rfl
      have g19 := range_cell hrg (i := 19) (u := .int .i64 l.til) rfl
      have HES : Hid (eS l = (l.frm, l.til)) := rfl
      obtain ⟨F, hF⟩ : ∃ F, F = l.frm := ⟨_, rfl⟩
      obtain ⟨T, hT⟩ : ∃ T, T = l.til := ⟨_, rfl⟩
      rw [← hF] at g17 HES
      rw [← hT] at g19 HES
      rw [HES.out] at HEG
      subst hla
      clear hl hrg hF hT hbl HES
      by_cases k1 : F ≤ p
      · by_cases k2 : p < T
        · have HN : Hid (¬ Fre (R.map eS) d p) := fun q => q.2.2 (F, T) (by rw [← HEG.out]; exact memP (by rw [List.length_map]; exact hlt)) ⟨k1, k2⟩
          have HBf : Hid (Below w.heap.size w (w1.drewN n)) := below_drewN HB1.out n
          go_wp2
          go_ret
          exact ⟨⟨false, rfl, ⟨fun q => (by cases q), fun q => absurd q HN.out⟩⟩, HBf.out⟩
        · have HC2 : Hid (∀ i, i < j + 1 → ¬ Cvr p ((R.map eS).getD i (0, 0))) := fun i hi => by
            by_cases e : i = j
            · rw [e, HEG.out]; exact fun q => k2 q.2
            · exact HC.out i (by omega)
          go_wp2
          go_roundw
          case rel => exact ⟨j + 1, n, by go_num, by omega, HC2.out, rfl⟩
          case measure => simp [intOf]; omega
      · have HC2 : Hid (∀ i, i < j + 1 → ¬ Cvr p ((R.map eS).getD i (0, 0))) := fun i hi => by
          by_cases e : i = j
          · rw [e, HEG.out]; exact fun q => k1 q.1
          · exact HC.out i (by omega)
        go_wp2
        go_roundw
        case rel => exact ⟨j + 1, n, by go_num, by omega, HC2.out, rfl⟩
        case measure => simp [intOf]; omega
    · have hlt' : ¬ (j : Int) < (R.length : Int) := by omega
      have HF : Hid (Fre (R.map eS) d p) := ⟨by omega, by omega, none_all (fun i hi => HC.out i (by rw [List.length_map] at hi; omega))⟩
      have HBf : Hid (Below w.heap.size w (w1.drewN n)) := below_drewN HB1.out n
      go_wp2
      go_ret
      exact ⟨⟨true, rfl, ⟨fun _ => HF.out, fun _ => rfl⟩⟩, HBf.out⟩
end Go.Proofs.Ytmbgjkghcpkoiaa

