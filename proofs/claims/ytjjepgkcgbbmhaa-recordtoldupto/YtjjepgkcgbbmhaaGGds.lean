import Derived.Test.YtjjepgkcgbbmhaaGDsv
import Derived.Test.YtjjepgkcgbbmhaaGPfx
namespace Go.Proofs.Ytjjepgkcgbbmhaa
open Go.RowKit Go.Maps
set_option maxRecDepth 20000
set_option linter.unusedVariables false

/-- P12.11, in numbers. -/
def gdN (d : List Int) (at' : Int) (l : Loc) : Int :=
  if at' < 0 ∨ (d.length : Int) < at' then 0 else if ¬ fitI (dsI l true) then 0
  else if pfx (d.drop at'.toNat) (rowI (dsI l true)) then 16 else if pfx (d.drop at'.toNat) (rowI (dsI l false)) then 12 else 0

def gdE (d : List Int) (at' : Int) (l : Loc) : Int :=
  if at' < 0 ∨ (d.length : Int) < at' then 1 else if ¬ fitI (dsI l true) then 124
  else if pfx (d.drop at'.toNat) (rowI (dsI l true)) then 0 else if pfx (d.drop at'.toNat) (rowI (dsI l false)) then 0 else if (d.length : Int) - at' < 12 then 122 else 123

theorem ds_len (l : Loc) : (rowI (dsI l true)).length = 16 ∧ (rowI (dsI l false)).length = 12 := by
  constructor <;> simp [dsI, dsT, rowI, itB, length_bytesLE]

theorem ds_bare (l : Loc) : (rowI (dsI l true)).drop 4 = rowI (dsI l false) := by
  have : rowI (dsI l true) = bytesLE 134695760 4 ++ rowI (dsI l false) := by simp [dsI, dsT, rowI, itB]
  rw [this, List.drop_append_of_le_length (by rw [length_bytesLE]; omega), List.drop_of_length_le (by rw [length_bytesLE]; omega)]
  rfl

set_option maxHeartbeats 1000000 in
theorem vstands_any (v u : Value) (d p : List Int) (k0 : Nat) (w : World) (h1 : SB w v d) (h2 : SB w u p) (hk0 : k0 ≤ d.length) (hd : d.length ≤ 140737488355328) (hp : p.length ≤ 16) :
    Calls Try.prog 40 #[v, .int .i64 (k0 : Int), u] w fun e w' => e = .returned (.bool (pfx (d.drop k0) p)) ∧ ∃ n, w' = w.drewN n := by
  obtain ⟨ao1, cap1, rfl, q1, q2, q3⟩ := h1.open11
  obtain ⟨ao2, cap2, rfl, r1, r2, r3⟩ := h2.open11
  by_cases hlt : d.length - k0 < p.length
  · have g : (d.length : Int) - (k0 : Int) < (p.length : Int) := by omega
    have HE : Hid (pfx (d.drop k0) p = false) := decide_eq_false (fun h => by have := congrArg List.length h; rw [List.length_take, List.length_drop] at this; omega)
    clear h1 h2 q3 r3
    go_enter Try.func40, Try.ntmps40
    go_wp2
    go_ret
    rw [HE.out]
    exact ⟨rfl, 0, rfl⟩
  · have g : ¬ (d.length : Int) - (k0 : Int) < (p.length : Int) := by omega
    obtain ⟨L, HL⟩ : ∃ L, Hid (L = (d.drop k0).take p.length) := ⟨_, rfl⟩
    have HLl : Hid (L.length = p.length) := by show _ = _; rw [HL.out, List.length_take, List.length_drop]; omega
    have HPX : Hid (pfx (d.drop k0) p = eqB L p) := by show _ = _; rw [HL.out]; rfl
    have HG1 : Hid (∀ i, i < p.length → ∃ b o, ao1 = some ⟨b, o, none⟩ ∧ w.cell? ⟨b, o + (k0 + i), none⟩ = some (.int .u8 (L.getD i 0))) := fun i hi => by
      obtain ⟨b, o, e, hc⟩ := h1.byte (Below.refl _ _) (k := k0 + i) (by omega)
      refine ⟨b, o, e, ?_⟩
      rw [hc, HL.out]
      simp [List.getD, hi]
    have HG2 : Hid (∀ i, i < p.length → ∃ b o, ao2 = some ⟨b, o, none⟩ ∧ w.cell? ⟨b, o + i, none⟩ = some (.int .u8 (p.getD i 0))) := fun i hi => h2.byte (Below.refl _ _) hi
    rw [HPX.out]
    clear h1 h2 q3 r3
    go_enter Try.func40, Try.ntmps40
    go_wp2
    go_loopw [7] (fun i wr => ∃ k n : Nat, k ≤ p.length ∧ i = .int .i64 k ∧ wr = w.drewN n ∧ Hid (L.take k = p.take k)) (fun i _ => p.length - (intOf i).toNat)
    case atStart => exact ⟨0, 0, Nat.zero_le _, rfl, rfl, rfl⟩
    case round =>
      obtain ⟨k, n, hk, rfl, rfl, HT⟩ := hrel
      by_cases hkl : k < p.length
      · obtain ⟨b1, o1, rfl, hc1⟩ := HG1.out k hkl
        obtain ⟨b2, o2, rfl, hc2⟩ := HG2.out k hkl
        obtain ⟨j, hj⟩ : ∃ j, j = k0 + k := ⟨_, rfl⟩
        have e2 : (k0 : Int) + (k : Int) = (j : Int) := by omega
        have e3 : j < d.length := by omega
        rw [← hj] at hc1
        obtain ⟨y1, hy1, HY1⟩ : ∃ c, w.cell? ⟨b1, o1 + j, none⟩ = some (.int .u8 c) ∧ Hid (c = L.getD k 0) := ⟨_, hc1, rfl⟩
        obtain ⟨y2, hy2, HY2⟩ : ∃ c, w.cell? ⟨b2, o2 + k, none⟩ = some (.int .u8 c) ∧ Hid (c = p.getD k 0) := ⟨_, hc2, rfl⟩
        have HK := take_step (l1 := L) (l2 := p) (k := k) (by have := HLl.out; omega) HLl.out HT.out
        clear hj
        clear hc1 hc2
        by_cases hcc : y1 = y2
        · subst hcc
          go_wp2
          go_quiet (fail)
          go_wp2
          go_roundw
          case rel => exact ⟨k + 1, _, by omega, by go_num, rfl, HK.1 (by rw [← HY1.out, ← HY2.out])⟩
          case measure => simp [intOf]; omega
        · have hcb : (y1 != y2) = true := by simpa using hcc
          have HX : Hid (eqB L p = false) := by show _ = _; simp only [eqB, decide_eq_false_iff_not]; exact HK.2 (by rw [← HY1.out, ← HY2.out]; exact hcc)
          go_wp2
          go_quiet (fail)
          go_wp2
          go_ret
          rw [HX.out]
          exact ⟨rfl, _, World.drewN_drewN _ _ _⟩
      · go_wp2
        go_ret
        refine ⟨?_, n, rfl⟩
        have : L = p := by
          have h := HT.out
          rwa [List.take_of_length_le (by rw [HLl.out]; omega), List.take_of_length_le (by omega)] at h
        simp [eqB, this]
end Go.Proofs.Ytjjepgkcgbbmhaa

