import Derived.Test.YtiabhmdefaabgabDoorG3a
import Derived.Test.YtiabhmdefaabgabDoorG5b
namespace Go.Proofs.YtiabhmdefaabgabDoor
open Go.RowKit Go.Maps
set_option maxRecDepth 20000
set_option linter.unusedVariables false

theorem ints_any (v : Value) (l : List Int) (w : World) (h : SI w v l) (hr : l.length ≤ 17592186044416) :
    Calls Tryd.prog 11 #[v] w fun e w' => ∃ v', e = .returned v' ∧ v' = .slice (some ⟨w.heap.size, 0, none⟩) l.length l.length ∧ OI w' w.heap.size v' l ∧ Below w.heap.size w w' := by
  obtain ⟨ao, cap, rfl, hlc, hcm, hnil, hcell⟩ := h
  obtain ⟨i0, hi, hz0, hz1, hz2⟩ := info_parts infoInt
  go_enter Tryd.func11, Tryd.ntmps11
  go_wp2_with (at_make; refine wpList_make_full _ rfl _ _ 22 rfl w.heap.size 3 i0 (.int .i64 0) 1 Tryd.underlying22 hi hz0 hz1 _ _ _ _ l.length rfl rfl rfl rfl ?b2 ?b3 ?b4 ?_)
  case b2 => rw [hz2]; omega
  case b3 => unfold maxLen; omega
  case b4 => exact Nat.le_refl _
  intro w1 hown hgrow
  rw [madeInts] at hown
  obtain ⟨hg, _⟩ := ownsRowI_full hown
  have hb1 : Below w.heap.size w w1 := (Below.refl _ _).grown hgrow (Nat.le_refl _) (fun k hk => by cases hk)
  have Hg : Hid (w1.heap[w.heap.size]? = some (.cells (List.replicate l.length (Value.int .i64 0)).toArray 3 (0, 0))) := hg
  clear hg hown hgrow
  have HN : Hid (ao = none → cap = 0) := hnil
  have HC : Hid (∀ x, ao = some x → ∀ i, i < l.length → w.cell? (x.add i) = some (.int .i64 (l.getD i 0))) := hcell
  clear hnil hcell
  obtain ⟨cs, hcs⟩ : ∃ cs, cs = l.map (Value.int .i64) := ⟨_, rfl⟩
  have HS : Hid (cs = l.map (Value.int .i64)) := hcs
  clear hcs
  have C1 : Hid (cs.length = Nat.min l.length l.length) := by show _ = _; rw [HS.out]; simp
  have C2 : Hid (0 < cs.length → (some (⟨w.heap.size, 0, none⟩ : Addr)) = some ⟨w.heap.size, 0, none⟩ ∧ ∃ ad, ao = some ad ∧ ∀ j v, cs[j]? = some v → w1.cell? (ad.add j) = some v) := by
    intro hp
    refine ⟨rfl, ?_⟩
    rw [HS.out, List.length_map] at hp
    cases ao with
    | none => have := HN.out rfl; omega
    | some x =>
      refine ⟨x, rfl, fun j u hj => ?_⟩
      rw [HS.out] at hj
      obtain ⟨hjl, rfl⟩ := List.getElem?_eq_some_iff.1 hj
      have hjl' : j < l.length := by simpa using hjl
      have hc := HC.out x rfl j hjl'
      rw [hb1.cell (by have := World.block_lt_of_cell? _ _ hc; exact this), hc]
      simp [hjl']
  have C3 : Hid (0 + cs.length ≤ (List.replicate l.length (Value.int .i64 0)).length) := by show _ ≤ _; rw [HS.out]; simp
  have C4 : Hid (∀ v ∈ cs, v.oneCell' = true) := by rw [HS.out]; intro u hu; obtain ⟨n, _, rfl⟩ := List.mem_map.1 hu; rfl
  go_wp2_with (refine wpList_copy_splice rfl _ _ 22 22 rfl 3 Tryd.underlying22 sizeInt _ _ _ _ _ _ rfl rfl w.heap.size 0 (List.replicate l.length (Value.int .i64 0)) 3 Hg.out cs C1.out C2.out C3.out C4.out w.heap.size w hb1 (Nat.le_refl _) ?_)
  intro w2 HG2 hb2
  have hfin : OI w2 w.heap.size (.slice (some ⟨w.heap.size, 0, none⟩) l.length l.length) l := by
    refine OI.of_full ?_ (Nat.le_refl _) (by unfold maxLen; omega)
    rw [HG2.out, splice_all _ _ (by rw [HS.out]; simp), HS.out]
  have HF := hfin
  go_wp2
  go_ret
  exact ⟨_, rfl, rfl, HF, hb2⟩

def Spare (w : World) (v : Value) (n : Nat) : Prop := ∃ g, v = .slice (some ⟨g, 0, none⟩) n (n + 9) ∧ ∀ j, j < 9 → w.cell? ⟨g, n + j, none⟩ = some (.int .i64 165)

theorem cell_at {w : World} {g : Nat} {L : List Value} {t : TypeId} {fr : Nat × Nat} (h : w.heap[g]? = some (.cells L.toArray t fr)) (i : Nat) : w.cell? ⟨g, i, none⟩ = L[i]? := by
  simp [World.cell?, h]

theorem room_at (A : List Value) (k n : Nat) (x z : Value) (h : k < n) : (A ++ List.replicate k x ++ List.replicate (n - k) z)[A.length + k]? = some z := by
  rw [List.getElem?_append_right (by simp), List.getElem?_replicate, if_pos (by simp; omega)]

theorem room_set (A : List Value) (k n : Nat) (x z : Value) (h : k < n) : (A ++ List.replicate k x ++ List.replicate (n - k) z).set (A.length + k) x = A ++ List.replicate (k + 1) x ++ List.replicate (n - (k + 1)) z := by
  obtain ⟨r, hr⟩ : ∃ r, n - k = r + 1 := ⟨n - k - 1, by omega⟩
  have e : A.length + k - (A ++ List.replicate k x).length = 0 := by simp
  rw [List.set_append_right _ _ (by simp), hr, show n - (k + 1) = r by omega, List.replicate_succ' (n := k), e, List.replicate_succ (n := r), List.set_cons_zero, ← List.append_assoc, List.append_assoc (A ++ List.replicate k x)]
  rfl

theorem room_end (A : List Value) (n j : Nat) (x z : Value) (h : j < n) : (A ++ List.replicate n x ++ List.replicate (n - n) z)[A.length + j]? = some x := by
  rw [List.append_assoc, List.getElem?_append_right (by omega), List.getElem?_append_left (by simp; omega), List.getElem?_replicate, if_pos (by omega)]

end Go.Proofs.YtiabhmdefaabgabDoor

