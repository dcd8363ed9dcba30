import Derived.Test.YtjjepgkcgbbmhacDoorGNsp
namespace Go.Proofs.YtjjepgkcgbbmhacDoor
open Go.RowKit
set_option maxRecDepth 1000000
set_option linter.unusedVariables false

/-- May p be a part of a name? -/
def prt (p : ByteArray) : Bool := !(p.toList == [] || p.toList == [46] || p.toList == [46, 46])
/-- The parts of a text, as the program cuts it. -/
def pts (s : ByteArray) : List ByteArray := Lib.splitB ⟨#[47]⟩ 0 (Lib.countB ⟨(Lib.trimSuffix s.data.toList [47]).toArray⟩ ⟨#[47]⟩) ⟨(Lib.trimSuffix s.data.toList [47]).toArray⟩

set_option maxHeartbeats 4000000 in
theorem parts_any (s : ByteArray) (m : Int) (w : World) (hs : s.size ≤ 65535) (hm : w.cell? ⟨0, 0, none⟩ = some (.int .i64 m)) :
    Calls Tryd.prog 11 #[.string s] w fun e w' => e = .returned (.bool ((pts s).all prt)) ∧ Below w.heap.size w w' := by
  have c1 := fun w0 => trimSuf_any s ⟨#[47]⟩ w0 (by omega)
  obtain ⟨t, ht⟩ : ∃ t : ByteArray, t = ⟨(Lib.trimSuffix s.data.toList [47]).toArray⟩ := ⟨_, rfl⟩
  have ht' : (⟨(Lib.trimSuffix s.data.toList (ByteArray.mk #[47]).data.toList).toArray⟩ : ByteArray) = t := by rw [ht]
  rw [ht'] at c1
  have hts : t.size ≤ 65535 := by
    rw [ht]
    have : (Lib.trimSuffix s.data.toList [47]).length ≤ s.data.toList.length := by
      unfold Lib.trimSuffix
      split
      · simp
      · exact Nat.le_refl _
    rw [Lib.size_eq] at hs
    rw [Lib.size_eq]
    simp only
    omega
  have c2 := split_any t ⟨#[47]⟩ m w (by omega) hm (by decide)
  obtain ⟨L, hL⟩ : ∃ L : List ByteArray, L = pts s := ⟨_, rfl⟩
  have hL' : Lib.splitB ⟨#[47]⟩ 0 (Lib.countB t ⟨#[47]⟩) t = L := by rw [hL, ht]; rfl
  have hn : Lib.countB t ⟨#[47]⟩ + 1 = L.length := by
    rw [← hL']
    exact (Lib.splitB_all ⟨#[47]⟩ (by decide) 0 _ t rfl).symm
  have hbig : L.length ≤ 65536 := by
    have := Lib.countB_le ⟨#[47]⟩ (by decide) t.size t (Nat.le_refl _)
    omega
  rw [hL', hn] at c2
  rw [← hL]
  clear ht ht' hts hL hL' hn
  have hcell : ∀ k, k < L.length → (w.alloc (.cells (L.map Value.string).toArray 9)).cell? ⟨w.heap.size, k, none⟩ = some (.string (L.getD k ByteArray.empty)) := by
    intro k hk
    rw [World.cell?_alloc_new]
    simp [hk, List.getD]
  have hbel : Below w.heap.size w (w.alloc (.cells (L.map Value.string).toArray 9)) := (Below.refl _ _).alloc (Nat.le_refl _) _
  obtain ⟨W0, hW0⟩ : ∃ W0, W0 = w.alloc (.cells (L.map Value.string).toArray 9) := ⟨_, rfl⟩
  rw [← hW0] at hcell hbel c2
  clear hW0
  go_enter Tryd.func11, Tryd.ntmps11
  go_wp2_with (first
    | (go_at_call 16; refine (c1 _).mono ?_; rintro e w1 ⟨rfl, h1⟩; rw [h1]; clear h1 w1)
    | (go_at_call 15; refine c2.mono ?_; rintro e w1 ⟨rfl, h1⟩; rw [h1]; clear h1 w1))
  clear c1 c2
  go_loopw [4, 9] (fun _ i wr => ∃ k : Nat, k ≤ L.length ∧ i = .int .i64 (k : Int) ∧ wr = W0 ∧ Hid ((L.take k).all prt = true)) (fun _ i _ => L.length - (Lib.intOf i).toNat)
  case atStart => exact ⟨0, Nat.zero_le _, rfl, rfl, by show _ = _; simp⟩
  case round =>
    obtain ⟨k, hk, rfl, rfl, HA⟩ := hrel
    by_cases hlt : k < L.length
    case neg =>
      have hke : k = L.length := by omega
      subst hke
      go_wp2
      go_ret
      refine ⟨?_, hbel⟩
      have := HA.out
      rw [List.take_length] at this
      rw [this]
      rfl
    case pos =>
      have g := hcell k hlt
      have hT : L.take (k + 1) = L.take k ++ [L.getD k ByteArray.empty] := by rw [List.take_add_one]; simp [List.getD, hlt]
      have hmem : L.getD k ByteArray.empty ∈ L := by simp [List.getD, hlt]
      generalize L.getD k ByteArray.empty = x at *
      have HR1 : prt x = false → Hid (L.all prt = false) := fun h => by
        show _ = _
        rw [List.all_eq_false]
        exact ⟨x, hmem, by simp [h]⟩
      have HR2 : prt x = true → Hid ((L.take (k + 1)).all prt = true) := fun h => by
        show _ = _
        rw [hT, List.all_append, HA.out]
        simp [h]
      clear hT hmem hcell HA
      go_wp2
      all_goals first
        | (go_ret
           refine ⟨?_, hbel⟩
           rw [(HR1 (by unfold prt; simp_all)).out]
           rfl)
        | (refine ⟨⟨k + 1, by omega, by simp, trivial, HR2 (by unfold prt; simp_all)⟩, ?_⟩
           simp only [Lib.intOf]
           omega)
end Go.Proofs.YtjjepgkcgbbmhacDoor

