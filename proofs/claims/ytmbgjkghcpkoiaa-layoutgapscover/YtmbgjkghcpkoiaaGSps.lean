import Derived.Test.YtmbgjkghcpkoiaaGRwr
import Derived.Test.YtmbgjkghcpkoiaaGEnt
import Derived.Test.YtmbgjkghcpkoiaaGQd
import Derived.Test.YtmbgjkghcpkoiaaGQe
namespace Go.Proofs.Ytmbgjkghcpkoiaa
open Go.RowKit Go.Maps
set_option maxRecDepth 20000
set_option linter.unusedVariables false
set_option linter.unusedSimpArgs false

def spC (s : Int × Int) : Array Value := #[.int .i64 s.1, .int .i64 s.2]

theorem infoS : (Try.prog.info? 39).map (fun i => (i.zero, i.size, i.bytes)) = some (some (.agg #[.int .i64 0, .int .i64 0]), 2, 16) := by kernel_rfl

/-- Spans by their keys. -/
def srtS (keys : List Int) (vals : List (Int × Int)) : List (Int × Int) := (H4.orderOf keys).map fun p => vals.getD p.toNat (0, 0)

theorem srtS_len (keys : List Int) (vals : List (Int × Int)) : (srtS keys vals).length = keys.length := by unfold srtS; rw [List.length_map, H4.orderOf_len]

theorem srtS_take {keys : List Int} {vals : List (Int × Int)} {k : Nat} (h : k < keys.length) : (srtS keys vals).take (k + 1) = (srtS keys vals).take k ++ [vals.getD ((H4.orderOf keys).getD k 0).toNat (0, 0)] := by
  have hk : k < (H4.orderOf keys).length := by rw [H4.orderOf_len]; exact h
  rw [List.take_succ_eq_append_getElem (by rw [srtS_len]; exact h)]
  simp [srtS, hk]

theorem siLen {w : World} {v : Value} {l : List Int} (h : H4.SI w v l) : ∃ a c, v = .slice a l.length c := by
  obtain ⟨a, c, rfl, _⟩ := h
  exact ⟨a, c, rfl⟩

theorem siNth {w : World} {ao : Option Addr} {cap n : Nat} {l : List Int} (h : H4.SI w (.slice ao n cap) l) {k : Nat} (hk : k < l.length) : ∃ b o, ao = some ⟨b, o, none⟩ ∧ w.cell? ⟨b, o + k, none⟩ = some (.int .i64 (l.getD k 0)) := by
  obtain ⟨a, c, e, h1, h2, h3, h4⟩ := h
  simp only [Value.slice.injEq] at e
  obtain ⟨rfl, rfl, rfl⟩ := e
  cases ao with
  | none => have := h3 rfl; omega
  | some x =>
    obtain ⟨b, o, rfl⟩ := addr_lit (h4 x rfl 0 (by omega))
    have := h4 _ rfl k hk
    rw [Addr.add_lit] at this
    exact ⟨b, o, rfl, this⟩

theorem spC_get {vals : List (Int × Int)} {i : Nat} (h : i < vals.length) : (vals.map spC).getD i #[] = spC (vals.getD i (0, 0)) := by simp [List.getD, h]

set_option maxHeartbeats 4000000 in
theorem sortS_any (vk vv : Value) (keys : List Int) (vals : List (Int × Int)) (w : World) (hk : H4.SI w vk keys) (hv : SR 2 w vv (vals.map spC)) (hne : keys.length = vals.length) (hn : keys.length ≤ 5864062014805) :
    Calls Try.prog 14 #[vk, vv] w fun e w' => ∃ a c, e = .returned (.tuple #[.slice a keys.length c, .int .i64 0]) ∧ OR 39 2 w' w.heap.size (.slice a keys.length c) ((srtS keys vals).map spC) ∧ Below w.heap.size w w' := by
  have HK := hide hk
  have HV := hide hv
  have HNE := hide hne
  obtain ⟨a1, c1, rfl⟩ := siLen hk
  obtain ⟨a2, c2, hvv, -, -⟩ := hv.open
  rw [List.length_map] at hvv
  subst hvv
  have h' : ((keys.length : Int) != (vals.length : Int)) = false := by simp; omega
  have hn2 : (vals.length : Int) ≤ 5864062014805 := by omega
  obtain ⟨i0, hi0, hz0, hz1, hz2⟩ := info_parts infoS
  clear hk hv hne
  go_enter Try.func14, Try.ntmps14
  go_wp2_with (at_make; refine wpList_make_own _ rfl _ _ 33 rfl w.heap.size 39 i0 _ 2 Try.underlying33 hi0 hz0 hz1 .i64 .i64 _ vals.length rfl rfl rfl (by rw [hz2]; omega) (by unfold maxLen; omega) (Nat.le_refl _) ?_)
  intro w2 hown2 hg2
  have hb2 : Below w.heap.size w w2 := ⟨hg2.os, hg2.tape, hg2.output, hg2.size, fun k hk => hg2.block k hk (by simp)⟩
  have hor2 : OR 39 2 w2 w.heap.size (.slice (some ⟨w.heap.size, 0, none⟩) 0 vals.length) [] := ⟨fun r hr => by simp at hr, hown2⟩
  have hsz : w.heap.size < w2.heap.size := (hor2.lt w.heap.size rfl).2
  have hO := H4.order_in _ keys w2 (HK.out.below hb2) hn
  have HB2 := hide hb2
  have HO2 := hide hor2
  have HZ2 := hide hsz
  clear hown2 hg2 hb2 hi0 hz0 hz1 hz2 hor2 hsz
  go_wp2_with fail
  refine hO.mono ?_
  rintro e w3 ⟨ao, co, rfl, o3, b3⟩
  have HB3 := hide (HB2.out.trans (b3.mono HB2.out.size))
  have HO3 := hide (HO2.out.below b3 (Nat.le_refl _))
  have HL3 : Hid (∀ k, (Value.slice ao keys.length co).ownBlock = some k → w.heap.size < k ∧ k < w3.heap.size) := fun k hk => by
    have := o3.lt k hk
    have := HZ2.out
    omega
  have HI3 := hide o3
  have HZ3 := hide b3.size
  clear o3 b3 hO HB2 HO2
  go_wp2
  go_loopw [6, 20] (fun sv iv wr => ∃ (k : Nat) (a : Option Addr) (c : Nat), iv = .int .i64 k ∧ sv = .slice a k c ∧ k ≤ keys.length ∧ Hid (OR 39 2 wr w.heap.size (.slice a k c) (((srtS keys vals).take k).map spC)) ∧ Hid (H4.OI wr w2.heap.size (.slice ao keys.length co) (H4.orderOf keys)) ∧ Hid (Below w.heap.size w wr) ∧ Hid (∀ g, (Value.slice a k c).ownBlock = some g → g = w.heap.size ∨ w3.heap.size ≤ g) ∧ Hid (w3.heap.size ≤ wr.heap.size)) (fun _ iv _ => keys.length - (intOf iv).toNat)
  case atStart => exact ⟨0, _, _, rfl, rfl, Nat.zero_le _, HO3.out, HI3.out, HB3.out, fun g hg => .inl (by simpa [Value.ownBlock] using hg.symm), Nat.le_refl _⟩
  case round =>
    obtain ⟨k, a, c, rfl, rfl, hk, HO, HI, HB, HG, HZ⟩ := hrel
    by_cases hlt : k < keys.length
    · have hlt' : (k : Int) < (keys.length : Int) := by omega
      have hlo : k < (H4.orderOf keys).length := by rw [H4.orderOf_len]; exact hlt
      obtain ⟨b, o, hab, d1⟩ := siNth HI.out.sb hlo
      have hr1 := H4.order_mem (keys := keys) (x := (H4.orderOf keys).getD k 0) (by simp [List.getD, hlo])
      have HT := hide (srtS_take (vals := vals) hlt)
      obtain ⟨x, hx⟩ : ∃ x : Nat, (H4.orderOf keys).getD k 0 = x := Int.eq_ofNat_of_zero_le hr1.1
      rw [hx] at d1 hr1 HT
      have hx1 : (x : Int) < (vals.length : Int) := by have := hr1.2; have := HNE.out; omega
      obtain ⟨b', o', hab', hr2⟩ := (HV.out.low HB.out).row (i := x) (by rw [List.length_map]; omega)
      rw [spC_get (by omega)] at hr2
      simp only [Int.toNat_natCast] at HT
      obtain ⟨y, hy⟩ : ∃ y, vals.getD x (0, 0) = y := ⟨_, rfl⟩
      rw [hy] at hr2 HT
      obtain ⟨y1, y2⟩ := y
      have d2 : wr.cell? ⟨b', o' + x * 2, none⟩ = some (.int .i64 y1) := range_cell (i := 0) hr2 rfl
      have d3 : wr.cell? ⟨b', o' + x * 2 + 1, none⟩ = some (.int .i64 y2) := range_cell (i := 1) hr2 rfl
      have HL2 : Hid ((((srtS keys vals).take k).map spC).length = k) := by show _ = _; rw [List.length_map, List.length_take, srtS_len]; omega
      have HAB := hide hab
      subst hab hab'
      have HOA := hide (HO.out.alloc (.cells #[.int .i64 y1, .int .i64 y2] 39))
      clear hx hy hr1 hlo hr2 HAB
      go_wp2_with (at_builtin; refine wpRow rfl _ _ 33 39 2 16 _ rfl Try.underlying33 infoS rfl (by omega) w.heap.size (.slice a k c) (((srtS keys vals).take k).map spC) #[.int .i64 y1, .int .i64 y2] wr.heap.size 1 (0, 0) rfl HOA.out rfl (heap_alloc_new _ _) rfl (by simp [Value.oneCell']) (by rw [HL2.out]; omega) (by rw [HL2.out]; omega) (by rw [size_alloc']; have := HB.out.size; omega) ?_)
      intro v4 w4 ho4 hg4 hat4
      rw [← List.map_take] at ho4
      have hs4 := hg4.size
      rw [size_alloc'] at hs4
      have HN : Hid (OR 39 2 w4 w.heap.size v4 (((srtS keys vals).take (k + 1)).map spC)) := by
        show OR _ _ _ _ _ _
        rw [HT.out, List.map_append]
        exact ho4
      have HB4 : Hid (Below w.heap.size w w4) := (HB.out.alloc HB.out.size _).grown hg4 (by rw [size_alloc']; have := HB.out.size; omega) (fun k hk => by have := (HO.out.lt k hk).1; omega)
      have HI4 : Hid (H4.OI w4 w2.heap.size (.slice (some ⟨b, o, none⟩) keys.length co) (H4.orderOf keys)) := HI.out.move fun q hq => by
        have h1 := HL3.out q hq
        have h2 := HZ.out
        rw [hg4.block q (by rw [size_alloc']; omega) (fun e => by
          have := HG.out q e.symm
          omega)]
        exact Below.heap_alloc _ _ q (by omega)
      obtain ⟨a4, c4, hv4, z1, z2⟩ := ho4.shape
      rw [List.length_append, HL2.out, List.length_singleton] at hv4
      subst hv4
      have HG4 : Hid (∀ g, (Value.slice a4 (k + 1) c4).ownBlock = some g → g = w.heap.size ∨ w3.heap.size ≤ g) := fun g hg => by
        have h2 := HZ.out
        rcases hat4 with e | e
        · exact HG.out g (e ▸ hg)
        · rw [hg] at e
          simp only [Option.some.injEq] at e
          exact .inr (by omega)
      have HZ4 : Hid (w3.heap.size ≤ w4.heap.size) := by show _ ≤ _; have := HZ.out; omega
      clear ho4 hg4 hat4 hs4 HO HI HB HG HZ HOA z1 z2
      go_wp2
      go_roundw
      case rel => exact ⟨k + 1, a4, c4, by go_num, rfl, by omega, HN.out, HI4.out, HB4.out, HG4.out, HZ4.out⟩
      case measure => simp [intOf]; omega
    · have hlt' : ¬ (k : Int) < (keys.length : Int) := by omega
      obtain rfl : k = keys.length := by omega
      have HFO : Hid (OR 39 2 wr w.heap.size (.slice a keys.length c) ((srtS keys vals).map spC)) := by
        have := HO.out
        rw [List.take_of_length_le (by rw [srtS_len]; exact Nat.le_refl _)] at this
        exact this
      clear HO HI HG HZ hk hlt
      go_wp2
      go_ret2
      exact ⟨a, c, rfl, HFO.out, HB.out⟩

end Go.Proofs.Ytmbgjkghcpkoiaa

