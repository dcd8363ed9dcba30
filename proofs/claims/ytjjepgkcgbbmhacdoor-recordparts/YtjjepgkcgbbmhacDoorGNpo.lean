import Derived.Test.YtjjepgkcgbbmhacDoorGNpw
namespace Go.Proofs.YtjjepgkcgbbmhacDoor
open Go.ChangeShapes Go.WideShapes Go.ChangeAt Go.RowKit Go.Joins Go.Deep
set_option maxRecDepth 20000
set_option linter.unusedVariables false
set_option linter.unusedSimpArgs false

theorem ok64p {n : Int} (h : (Lit.int .i64 n).wf = true) : -9223372036854775808 ≤ n ∧ n ≤ 9223372036854775807 := by
  simp [Lit.wf, IntKind.min, IntKind.max, IntKind.signed, IntKind.bits] at h
  omega
theorem byte_wfp {n : Int} (h : (Lit.int .u8 n).wf = true) : 0 ≤ n ∧ n < 256 := by
  simp [Lit.wf, IntKind.min, IntKind.max, IntKind.signed, IntKind.bits] at h
  omega
def Bytp (l : List Int) : Prop := ∀ i, 0 ≤ l.getD i 0 ∧ l.getD i 0 < 256
/-- A list of lists of bytes that can be read. -/
def PS (w : World) (v : Value) (Q : List (Value × List Int)) : Prop :=
  ∃ ao cap, v = .slice ao Q.length cap ∧ Q.length ≤ cap ∧ cap ≤ 9223372036854775807 ∧ ∀ (i : Nat) (p : Value × List Int), Q[i]? = some p → ∃ b o, ao = some ⟨b, o, none⟩ ∧ b < w.heap.size ∧ w.cell? ⟨b, o + i, none⟩ = some p.1 ∧ SB w p.1 p.2 ∧ Bytp p.2
theorem PS.low {w w' : World} {v : Value} {Q : List (Value × List Int)} (h : PS w v Q) (hb : Below w.heap.size w w') : PS w' v Q := by
  obtain ⟨ao, cap, rfl, h1, h2, h3⟩ := h
  refine ⟨ao, cap, rfl, h1, h2, fun i p hp => ?_⟩
  obtain ⟨b, o, q1, q2, q3, q4, q5⟩ := h3 i p hp
  exact ⟨b, o, q1, Nat.lt_of_lt_of_le q2 hb.size, (hb.cell (p := ⟨b, o + i, none⟩) q2).trans q3, q4.below hb, q5⟩

theorem exists_listp {α : Type} (P : Nat → α → Prop) : ∀ n, (∀ i, i < n → ∃ a, P i a) → ∃ l : List α, l.length = n ∧ ∀ i a, l[i]? = some a → P i a
  | 0, _ => ⟨[], rfl, fun i a h => by simp at h⟩
  | n + 1, h => by
    obtain ⟨l, hl, hp⟩ := exists_listp P n fun i hi => h i (by omega)
    obtain ⟨a, ha⟩ := h n (by omega)
    refine ⟨l ++ [a], by simp [hl], fun i x hx => ?_⟩
    by_cases hi : i < l.length
    · rw [List.getElem?_append_left hi] at hx
      exact hp i x hx
    · rw [List.getElem?_append_right (by omega)] at hx
      have : i - l.length = 0 := by
        by_cases e : i - l.length = 0
        · exact e
        · rw [List.getElem?_eq_none (by simp; omega)] at hx; cases hx
      rw [this] at hx
      simp at hx
      rw [← hx, show i = n by omega]
      exact ha

theorem open_bytesp {H : Type} {enc : TypeId × Value → H} {W : World} {n : Nat} {v : Value} {y : DataW H × List MemPlace} (h : DataW.trod enc Tryd.prog W 0 (fun _ => true) true n 24 [v] = some y) :
    ∃ l, SB W v l ∧ Bytp l := by
  rcases open_ints Tryd.underlying24 Tryd.underlying5 (by kernel_rfl) h with ⟨hcs, hx⟩ | ⟨x, ll, c, zs, hcs, _, hl, hm, hz, hx, hcell, hwz⟩
  · simp at hcs
    subst hcs
    exact ⟨[], ⟨none, 0, rfl, Nat.le_refl _, Nat.zero_le _, fun _ => rfl, fun x hx => by cases hx⟩, (fun i => by simp)⟩
  · simp at hcs
    subst hcs
    simp only [if_true] at hz
    have e : (zs.take ll).length = ll := by rw [List.length_take]; omega
    refine ⟨zs.take ll, ⟨some x, c, by rw [e], by omega, hm, (fun h => by cases h), fun y hy i hi => ?_⟩, fun i => ?_⟩
    · cases hy
      rw [e] at hi
      rw [hcell i (by omega)]
      simp [List.getD, hi]
    · by_cases hi : i < (zs.take ll).length
      · rw [List.getD, List.getElem?_eq_getElem hi]
        exact byte_wfp (hwz _ (List.mem_of_mem_take (List.getElem_mem hi)))
      · have : (zs.take ll).getD i 0 = 0 := by simp only [List.getD, List.getElem?_eq_none (Nat.le_of_not_lt hi)]; rfl
        rw [this]; decide

theorem cellsBp : Tryd.prog.cellsOf 24 = 1 := by kernel_rfl
theorem list1p {α : Type} {l : List α} (h : l.length = 1) : ∃ a, l = [a] := by
  match l, h with
  | [a], _ => exact ⟨a, rfl⟩

theorem open_lists {H : Type} {enc : TypeId × Value → H} {W : World} {ao : Option Addr} {len cap : Nat} {d : DataW H} {ps : List MemPlace}
    (h : DataW.Trod enc Tryd.prog W 0 (fun _ => true) true 22 (.slice ao len cap) d ps) : ∃ Q, PS W (.slice ao len cap) Q := by
  obtain ⟨fuel, hf⟩ := h
  rcases open_slice Tryd.underlying22 hf with ⟨hcs, _⟩ | ⟨a, ln, cp, m, n, D, Pl, hcs, _, hl, hm, hmm, hx, hel⟩
  · simp [Value.cells] at hcs
    obtain ⟨rfl, rfl, rfl⟩ := hcs
    exact ⟨[], none, 0, rfl, Nat.le_refl _, Nat.zero_le _, fun i p hp => by simp at hp⟩
  · simp [Value.cells] at hcs
    obtain ⟨rfl, rfl, rfl⟩ := hcs
    simp only [if_true] at hmm
    unfold maxLen at hm
    by_cases h0 : len = 0
    · subst h0
      exact ⟨[], some a, cap, rfl, Nat.zero_le _, hm, fun i p hp => by simp at hp⟩
    have hab' : ∃ b' of', a = ⟨b', of', none⟩ ∧ b' < W.heap.size := by
      obtain ⟨cs0, hc0, ht0⟩ := hel 0 (by omega)
      rw [cellsBp] at hc0
      obtain ⟨_, hl0, hcell0⟩ := World.cells?_some hc0
      have h0 := hcell0 0 (by omega)
      rw [List.getElem?_eq_getElem (show 0 < cs0.length by omega), show (a.add (0 * 1)).add 0 = a.add 0 by simp [Addr.add]] at h0
      obtain ⟨b', of', rfl⟩ := addr_lit h0
      refine ⟨b', of', rfl, ?_⟩
      have := World.block_lt_of_cell? _ _ h0
      rw [Addr.add_lit] at this
      exact this
    obtain ⟨b', of', rfl, hbl⟩ := hab'
    obtain ⟨R, hlo, hR⟩ := exists_listp (fun i (p : Value × List Int) => W.cell? ⟨b', of' + i, none⟩ = some p.1 ∧ SB W p.1 p.2 ∧ Bytp p.2) len (fun i hi => by
      obtain ⟨cs', hc, ht⟩ := hel i (by omega)
      rw [cellsBp] at hc
      obtain ⟨_, hl1, hcell⟩ := World.cells?_some hc
      obtain ⟨v, rfl⟩ := list1p hl1
      obtain ⟨l, h1, h2⟩ := open_bytesp ht
      refine ⟨(v, l), ?_, h1, h2⟩
      have := hcell 0 (by omega)
      rw [Addr.add_lit, Addr.add_lit] at this
      simpa using this)
    exact ⟨R, some ⟨b', of', none⟩, cap, by rw [hlo], by omega, hm, fun i p hp => ⟨b', of', rfl, hbl, hR i p hp⟩⟩

/-- The bytes of texts that are put together. -/
theorem app_list (a b : ByteArray) : (a ++ b).data.toList = a.data.toList ++ b.data.toList := by simp [ByteArray.data_append]
theorem ins_back {s : ByteArray} {b : List UInt8} (h : Nm s.data.toList) : Ins (s ++ ⟨b.toArray⟩) s.data.toList b s.data.toList.length := by
  refine ⟨h, Nat.le_refl _, ?_⟩
  rw [app_list, List.take_length, List.drop_length, List.append_nil]
theorem ins_front {s : ByteArray} {b : List UInt8} (h : Nm s.data.toList) : Ins (⟨b.toArray⟩ ++ s) s.data.toList b 0 := by
  refine ⟨h, Nat.zero_le _, ?_⟩
  rw [app_list]
  simp
theorem ins_self {s : ByteArray} (h : Nm s.data.toList) : Ins s s.data.toList [] s.data.toList.length := ⟨h, Nat.le_refl _, by simp⟩
theorem ins_mid {s : ByteArray} {b : List UInt8} {k : Nat} (h : Nm s.data.toList) (hk : k ≤ s.size) : Ins (s.extract 0 k ++ ⟨b.toArray⟩ ++ s.extract k s.size) s.data.toList b k := by
  refine ⟨h, by rw [← Lib.size_eq]; exact hk, ?_⟩
  rw [app_list, app_list, Lib.extract_from_zero, Lib.extract_to_end]
end Go.Proofs.YtjjepgkcgbbmhacDoor

