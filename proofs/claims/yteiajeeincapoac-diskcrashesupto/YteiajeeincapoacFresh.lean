import Derived.Test.YteiajeeincapoacCrash
namespace Go.Proofs.Yteiajeeincapoac
open Go.RowKit Go.Maps

theorem madeInts (n : Nat) : (madeCells #[Value.int .i64 0] n).toList = List.replicate n (Value.int .i64 0) := by
  have e : ∀ k : Nat, [Value.int IntKind.i64 0][k % 1]?.getD default = Value.int .i64 0 := fun k => by simp [Nat.mod_one]
  simp only [madeCells]
  simp [e, List.map_const']

theorem ownsRow_full' {w : World} {base g n : Nat} {e : TypeId} {xs : List Value} (h : w.ownsRow base e 1 (.slice (some ⟨g, 0, none⟩) n n) n xs) : w.heap[g]? = some (.cells xs.toArray e (0, 0)) ∧ base ≤ g := by
  obtain ⟨hl, h | ⟨g', cap, cur, he, hb, hg, _, _, hs, ht⟩⟩ := h
  · exact absurd h.1 (by simp)
  · simp only [Value.slice.injEq, Option.some.injEq, Addr.mk.injEq] at he
    obtain ⟨⟨rfl, -, -⟩, -, rfl⟩ := he
    have : cur = xs.toArray := by
      apply Array.ext'
      rw [← ht, List.take_of_length_le (by simp [hs])]
    exact ⟨by rw [hg, this], hb⟩

theorem sizeInt : (Try.prog.info? 3).map (·.size) = some 1 := by kernel_rfl

theorem choice_any (size rest : Int) (v : Value) (sec : List Int) (w : World) (hs : SI w v sec) (hr : sec.length ≤ 17592186043904) :
    Calls Try.prog 9 #[.agg #[.int .i64 size, v, .int .i64 rest]] w fun e w' => ∃ b, e = .returned (.agg #[.int .i64 size, .slice (some ⟨b, 0, none⟩) sec.length sec.length, .int .i64 rest]) ∧ SI w' (.slice (some ⟨b, 0, none⟩) sec.length sec.length) sec ∧ w.heap.size ≤ b ∧ Below w.heap.size w w' := by
  obtain ⟨ao, cap, rfl, hlc, hcm, hnil, hcell⟩ := hs
  unfold maxLen at hcm
  obtain ⟨i0, hi, hz0, hz1, hz2⟩ := info_parts info3
  have HN := hide hnil
  have HC := hide hcell
  clear hnil hcell
  go_enter Try.func9, Try.ntmps9
  go_wp2_with (at_make; refine wpList_make_full _ rfl _ _ 24 rfl w.heap.size 3 i0 (.int .i64 0) 1 Try.underlying24 hi hz0 hz1 _ _ _ _ sec.length rfl rfl rfl rfl ?b2 ?b3 ?b4 ?_)
  case b2 => rw [hz2]; omega
  case b3 => unfold maxLen; omega
  case b4 => simp; omega
  intro w1 hown hgrow
  rw [madeInts] at hown
  obtain ⟨hF, _⟩ := ownsRow_full' hown
  have hold : ∀ k, k < w.heap.size + 1 + 1 → w1.heap[k]? = ((w.alloc (.cells #[.int .i64 size, .slice ao sec.length cap, .int .i64 rest] 26)).alloc (.cells #[.int .i64 0, .slice none 0 0, .int .i64 0] 26)).heap[k]? := fun k hk => hgrow.block k (by rw [size_alloc', size_alloc']; exact hk) (by simp)
  have hbox := (hold w.heap.size (by omega)).trans (heap_two _ _ _).2
  have hres := (hold (w.heap.size + 1) (by omega)).trans (heap_two _ _ _).1
  have hb1 : Below w.heap.size w w1 := ⟨hgrow.os, hgrow.tape, hgrow.output, Nat.le_trans (by rw [size_alloc', size_alloc']; omega) hgrow.size, fun k hk => by
    rw [hold k (by omega), Below.heap_alloc _ _ k (by rw [size_alloc']; omega), Below.heap_alloc _ _ k hk]⟩
  have hs1 : w.heap.size + 1 + 1 < w1.heap.size := (Array.getElem?_eq_some_iff.1 hF).1
  have x1 : w1.cell? ⟨w.heap.size, 1, none⟩ = some (.slice ao sec.length cap) := by simp [World.cell?, hbox]
  have HF := hide hF
  have HBX := hide hbox
  have HRS := hide hres
  have HB1 := hide hb1
  clear hF hold hown hgrow hbox hres hb1
  obtain ⟨cs, hcs⟩ : ∃ cs, cs = sec.map (Value.int .i64) := ⟨_, rfl⟩
  have HS := hide hcs
  clear hcs
  have C1 : Hid (cs.length = Nat.min sec.length sec.length) := by show _ = _; rw [HS.out]; simp
  have C2 : Hid (0 < cs.length → (some (⟨w.heap.size + 1 + 1, 0, none⟩ : Addr)) = some ⟨w.heap.size + 1 + 1, 0, none⟩ ∧ ∃ ad, ao = some ad ∧ ∀ j v, cs[j]? = some v → w1.cell? (ad.add j) = some v) := by
    intro hp
    refine ⟨rfl, ?_⟩
    rw [HS.out, List.length_map] at hp
    cases ao with
    | none => have := HN.out rfl; omega
    | some x =>
      refine ⟨x, rfl, fun j u hj => ?_⟩
      rw [HS.out] at hj
      obtain ⟨hjl, rfl⟩ := List.getElem?_eq_some_iff.1 hj
      have hjl' : j < sec.length := by simpa using hjl
      have hc := HC.out x rfl j hjl'
      rw [HB1.out.cell (World.block_lt_of_cell? _ _ hc), hc]
      simp [hjl']
  have C3 : Hid (0 + cs.length ≤ (List.replicate sec.length (Value.int .i64 0)).length) := by show _ ≤ _; rw [HS.out]; simp
  have C4 : Hid (∀ v ∈ cs, v.oneCell' = true) := by rw [HS.out]; intro u hu; obtain ⟨n, _, rfl⟩ := List.mem_map.1 hu; rfl
  go_wp2_with (refine wpList_copy_gr rfl _ _ 24 24 rfl 3 Try.underlying24 sizeInt _ _ _ _ _ _ rfl rfl (w.heap.size + 1 + 1) 0 (List.replicate sec.length (Value.int .i64 0)) 3 HF.out cs C1.out C2.out C3.out C4.out ?_)
  intro w2 HF2 hgr2
  have hbx2 := (hgr2.block w.heap.size (by omega) (by simp; omega)).trans HBX.out
  have hrs2 := (hgr2.block (w.heap.size + 1) (by omega) (by simp)).trans HRS.out
  have y0 : w2.cell? ⟨w.heap.size, 0, none⟩ = some (.int .i64 size) := by simp [World.cell?, hbx2]
  have y1 : w2.cell? ⟨w.heap.size, 2, none⟩ = some (.int .i64 rest) := by simp [World.cell?, hbx2]
  have z0 : w2.cell? ⟨w.heap.size + 1, 0, none⟩ = some (.int .i64 0) := by simp [World.cell?, hrs2]
  have z1 : w2.cell? ⟨w.heap.size + 1, 1, none⟩ = some (.slice none 0 0) := by simp [World.cell?, hrs2]
  have z2 : w2.cell? ⟨w.heap.size + 1, 2, none⟩ = some (.int .i64 0) := by simp [World.cell?, hrs2]
  have fz : ∀ o, w2.frozen? ⟨w.heap.size + 1, o, none⟩ = false := fun o => by simp [World.frozen?, hrs2]
  have HB2 : Hid (Below w.heap.size w w2) := HB1.out.trans ⟨hgr2.os, hgr2.tape, hgr2.output, hgr2.size, fun k hk => hgr2.block k (by omega) (by simp; omega)⟩
  have hs2 : w1.heap.size ≤ w2.heap.size := hgr2.size
  clear x1 hgr2 hbx2 hrs2 C1 C2 C3 C4
  go_wp2
  (try simp only [Exit.inBlock, Exit.then])
  refine bodyPost_ret (v := .agg #[.int .i64 size, .slice (some ⟨w.heap.size + 1 + 1, 0, none⟩) sec.length sec.length, .int .i64 rest]) (by simp [results, Try.results9, go_sem, z0, z1, z2]) rfl ?_
  have hkeep : ∀ W : World, ∀ k, k ≠ w.heap.size + 1 → ∀ u0 u1 u2, (((W.setCell ⟨w.heap.size + 1, 0, none⟩ u0).setCell ⟨w.heap.size + 1, 1, none⟩ u1).setCell ⟨w.heap.size + 1, 2, none⟩ u2).heap[k]? = W.heap[k]? := fun W k hk u0 u1 u2 => by
    rw [setCell_others _ _ _ _ k hk, setCell_others _ _ _ _ k hk, setCell_others _ _ _ _ k hk]
  refine ⟨w.heap.size + 1 + 1, rfl, ?_, by omega, HB2.out.trans ⟨rfl, rfl, rfl, ?_, fun k hk => hkeep w2 k (by omega) _ _ _⟩⟩
  · refine ⟨some ⟨w.heap.size + 1 + 1, 0, none⟩, sec.length, rfl, Nat.le_refl _, by unfold maxLen; omega, (fun e => by cases e), fun x hx i hi => ?_⟩
    cases hx
    rw [World.cell?_of_block (hkeep w2 _ (by rw [add_block]; simp) _ _ _), Addr.add_lit]
    have := HF2.out
    rw [splice_all _ _ (by rw [HS.out]; simp), HS.out] at this
    simp [World.cell?, this, hi]
  · rw [size_setCell, size_setCell, size_setCell]; exact Nat.le_refl _
end Go.Proofs.Yteiajeeincapoac
