import Derived.Test.YtmjdpfigkojolaaGreatDoorG13Wkq
import Derived.Test.YtmjdpfigkojolaaGreatDoorG34Sky
import Derived.BigQuiet
import Derived.Deep.QuietTactic
namespace Go.Proofs.YtmjdpfigkojolaaGreatDoor
open Go.RowKit Go.Maps
set_option maxRecDepth 20000
set_option linter.unusedVariables false
set_option linter.unusedSimpArgs false

/-! Lists of marks: two cells each. -/

abbrev P2 := Int × Int
def p2c (p : P2) : Array Value := #[.int .i64 p.1, .int .i64 p.2]
def fl2 (L : List P2) : List Value := flr (L.map p2c)
def OM (w : World) (B : Nat) (v : Value) (L : List P2) : Prop := ORp 38 2 w B v (L.map p2c)
def mk2 (m : Mk) : P2 := (m.1, m.2.1)

theorem fl2_nil : fl2 [] = [] := rfl
theorem fl2_cons (p : P2) (L : List P2) : fl2 (p :: L) = .int .i64 p.1 :: .int .i64 p.2 :: fl2 L := rfl
theorem fl2_app (A B : List P2) : fl2 (A ++ B) = fl2 A ++ fl2 B := by simp [fl2, flr_app]
theorem fl2_len (L : List P2) : (fl2 L).length = L.length * 2 := by
  induction L with
  | nil => rfl
  | cons p L ih => rw [fl2_cons]; simp only [List.length_cons, ih]; omega

theorem om_sizes (L : List P2) : ∀ r ∈ L.map p2c, r.size = 2 := by
  intro r hr
  obtain ⟨p, -, rfl⟩ := List.mem_map.1 hr
  rfl

structure Fil (w : World) (G n : Nat) (A : List P2) : Prop where
  row : ∃ cur, w.heap[G]? = some (.cells cur 38 (0, 0)) ∧ cur.size = n * 2 ∧ cur.toList.take (A.length * 2) = fl2 A

theorem fill_next {cur : Array Value} {n : Nat} {A : List P2} (a b : Int) (h1 : cur.size = n * 2) (h2 : cur.toList.take (A.length * 2) = fl2 A) (hk : A.length < n) :
    ((cur.setIfInBounds (A.length * 2) (.int .i64 a)).setIfInBounds (A.length * 2 + 1) (.int .i64 b)).toList.take ((A ++ [(a, b)]).length * 2) = fl2 (A ++ [(a, b)]) := by
  have hl : cur.toList.length = n * 2 := by rw [Array.length_toList]; exact h1
  have hd : cur.toList = fl2 A ++ cur.toList.drop (A.length * 2) := by rw [← h2, List.take_append_drop]
  obtain ⟨r0, r1, r, hr⟩ : ∃ r0 r1 r, cur.toList.drop (A.length * 2) = r0 :: r1 :: r := by
    have : 2 ≤ (cur.toList.drop (A.length * 2)).length := by rw [List.length_drop]; omega
    match hq : cur.toList.drop (A.length * 2), this with
    | r0 :: r1 :: r, _ => exact ⟨r0, r1, r, rfl⟩
  rw [hr] at hd
  simp only [Array.toList_setIfInBounds]
  rw [hd, ← fl2_len A, fl2_app]
  have e : (A ++ [(a, b)]).length * 2 = (fl2 A).length + 2 := by rw [fl2_len, List.length_append]; simp; omega
  rw [e]
  simp [List.set_append_right, fl2_cons, fl2_nil, List.take_append]
  exact List.take_of_length_le (by omega)

theorem Fil.cells {w : World} {G n : Nat} {A : List P2} (h : Fil w G n A) (hk : A.length < n) : (∃ z, w.cell? ⟨G, A.length * 2, none⟩ = some z) ∧ (∃ z, w.cell? ⟨G, A.length * 2 + 1, none⟩ = some z) ∧ ∀ i, w.frozen? ⟨G, i, none⟩ = false := by
  obtain ⟨cur, h1, h2, h3⟩ := h.row
  refine ⟨⟨cur[A.length * 2]'(by omega), ?_⟩, ⟨cur[A.length * 2 + 1]'(by omega), ?_⟩, fun i => ?_⟩
  · simp [World.cell?, h1]
  · simp [World.cell?, h1]
  · simp [World.frozen?, h1]

theorem Fil.next {w : World} {G n : Nat} {A : List P2} (h : Fil w G n A) (hk : A.length < n) (a b : Int) : Fil ((w.setCell ⟨G, A.length * 2, none⟩ (.int .i64 a)).setCell ⟨G, A.length * 2 + 1, none⟩ (.int .i64 b)) G n (A ++ [(a, b)]) := by
  obtain ⟨cur, h1, h2, h3⟩ := h.row
  have q1 := heap_setCell_same w G (A.length * 2) _ _ (.int .i64 a) h1
  have q2 := heap_setCell_same _ G (A.length * 2 + 1) _ _ (.int .i64 b) q1
  exact ⟨_, q2, by simpa using h2, fill_next a b h2 h3 hk⟩

theorem Fil.move {w w' : World} {G n : Nat} {A : List P2} (h : Fil w G n A) (e : w'.heap[G]? = w.heap[G]?) : Fil w' G n A := by
  obtain ⟨cur, h1, h2⟩ := h.row
  exact ⟨cur, e.trans h1, h2⟩

theorem Fil.om {w : World} {B G n : Nat} {A : List P2} (h : Fil w G n A) (hn : n = A.length) (hB : B ≤ G) (hm : n ≤ 268435456) : OM w B (.slice (some ⟨G, 0, none⟩) n n) A := by
  obtain ⟨cur, h1, h2, h3⟩ := h.row
  subst hn
  refine ⟨om_sizes A, ?_, ?_⟩
  · have := fl2_len A
    rw [List.length_map]; exact this
  · rw [List.length_map]
    exact .inr ⟨G, A.length, cur, rfl, hB, h1, Nat.le_refl _, by unfold maxLen; omega, h2, h3⟩

theorem infoMk : (Tryz.prog.info? 38).map (fun i => (i.zero, i.size, i.bytes)) = some (some (.agg #[.int .i64 0, .int .i64 0]), 2, 16) := by kernel_rfl

theorem run_mkM (n : Nat) (hn : n ≤ 268435456) (w : World) : ∃ w' cur, (Instr.makeSlice 33 (.int .i64 (n : Int)) (.int .i64 (n : Int))).run Tryz.prog w = .ok (.slice (some ⟨w.heap.size, 0, none⟩) n n) w' ∧ w'.heap[w.heap.size]? = some (.cells cur 38 (0, 0)) ∧ cur.size = n * 2 ∧ Below w.heap.size w w' := by
  obtain ⟨i0, hi, hz0, hz1, hz2⟩ := info_parts infoMk
  have hr := run_make (P := Tryz.prog) w 33 38 i0 _ Tryz.underlying33 hi hz0 .i64 .i64 (n : Int) (n : Int) (by omega) (by omega) (by rw [hz2]; omega) (by omega)
  refine ⟨_, _, hr, heap_alloc_new _ _, ?_, (Below.refl _ _).alloc (Nat.le_refl _) _⟩
  rw [hz1]
  simp [madeCells]

set_option maxHeartbeats 4000000 in
theorem hMarks {w : World} {B g : Nat} {sz : Int} {ms : List Mk} {K : List Int} {mv kv : Value} (h : Ix w B g sz ms K mv kv) (hl : ms.length ≤ 268435456) :
    Calls Tryz.prog 10 #[.pointer (some ⟨g, 0, none⟩)] w fun e w' => ∃ a c, e = .returned (.slice a ms.length c) ∧ OM w' w.heap.size (.slice a ms.length c) (ms.map mk2) ∧ Below w.heap.size w w' := by
  obtain ⟨c0, c1, c2, -⟩ := ixO_cells h.box
  obtain ⟨wA, cur, hrun, hA1, hA2, hA3⟩ := run_mkM ms.length hl w
  have HM : Hid (∀ k, k < ms.length → ∃ gg c, mv = .slice (some ⟨gg, 0, none⟩) ms.length c ∧ ms.length ≤ c ∧ c ≤ 9223372036854775807 ∧ gg < w.heap.size ∧ w.cell? ⟨gg, k * 3, none⟩ = some (.int .i64 (ms.getD k (0, 0, 0)).1) ∧ w.cell? ⟨gg, k * 3 + 1, none⟩ = some (.int .i64 (ms.getD k (0, 0, 0)).2.1) ∧ w.cell? ⟨gg, k * 3 + 2, none⟩ = some (.int .i64 (ms.getD k (0, 0, 0)).2.2)) := fun k hk => by
    obtain ⟨gg, c, e, q1, q2, q3⟩ := marks_at h.marks hk
    exact ⟨gg, c, e, q1, q2, (h.marks.lt gg (by rw [e]; rfl)).2, q3⟩
  have HG : Hid (g < w.heap.size) := (Array.getElem?_eq_some_iff.1 h.box).1
  have HK := hide (And.intro hA1 (And.intro hA2 hA3))
  have HL := hide hl
  obtain ⟨a, c, hmv, h1, h2⟩ := h.marks.shape
  rw [List.length_map] at hmv h1
  obtain ⟨n, HN⟩ : ∃ n, Hid (n = ms.length) := ⟨_, rfl⟩
  rw [← HN.out] at hmv h1 hrun
  subst hmv
  have k1 : wA.cell? ⟨g, 1, none⟩ = some (.slice a n c) := (World.cell?_of_block (hA3.block g HG.out)).trans c1
  clear h hA1 hA2 hA3 hl c0 c2
  go_enter Tryz.func10, Tryz.ntmps10
  go_wp2
  go_loopw [19] (fun i wx => ∃ k : Nat, k ≤ n ∧ i = .int .i64 k ∧ Fil wx w.heap.size n ((ms.take k).map mk2) ∧ Below w.heap.size w wx) (fun i _ => n - (intOf i).toNat)
  case atStart => exact ⟨0, Nat.zero_le _, rfl, ⟨cur, HK.out.1, by rw [HN.out]; exact HK.out.2.1, by simp [fl2_nil]⟩, HK.out.2.2⟩
  case round =>
    obtain ⟨k, hkn, rfl, hf, hb⟩ := hrel
    by_cases hk : k < n
    · have hk' : (k : Int) < (n : Int) := by omega
      obtain ⟨gg, c', e, q1, q2, q3, p0, p1, p2⟩ := HM.out k (by have := HN.out; omega)
      simp only [Value.slice.injEq] at e
      obtain ⟨rfl, -, -⟩ := e
      obtain ⟨b1, hb1⟩ : ∃ b1, (ms.getD k (0, 0, 0)).1 = b1 := ⟨_, rfl⟩
      obtain ⟨b2, hb2⟩ : ∃ b2, (ms.getD k (0, 0, 0)).2.1 = b2 := ⟨_, rfl⟩
      obtain ⟨b3, hb3⟩ : ∃ b3, (ms.getD k (0, 0, 0)).2.2 = b3 := ⟨_, rfl⟩
      rw [hb1] at p0
      rw [hb2] at p1
      rw [hb3] at p2
      have hgb := hb.block gg q3
      have j0 : wr.cell? ⟨gg, k * 3, none⟩ = some (.int .i64 b1) := (World.cell?_of_block hgb).trans p0
      have j1 : wr.cell? ⟨gg, k * 3 + 1, none⟩ = some (.int .i64 b2) := (World.cell?_of_block hgb).trans p1
      have j2 : wr.cell? ⟨gg, k * 3 + 2, none⟩ = some (.int .i64 b3) := (World.cell?_of_block hgb).trans p2
      have hlen : ((ms.take k).map mk2).length = k := by rw [List.length_map, List.length_take]; have := HN.out; omega
      obtain ⟨A, HA⟩ : ∃ A, Hid (A = (ms.take k).map mk2) := ⟨_, rfl⟩
      rw [← HA.out] at hf hlen
      have hGl : w.heap.size < wr.heap.size := by obtain ⟨cur', t1, _⟩ := hf.row; exact (Array.getElem?_eq_some_iff.1 t1).1
      have HB2 := hide hb
      obtain ⟨⟨z1, t1⟩, ⟨z2, t2⟩, t3⟩ := hf.cells (by omega)
      have HNX := hide (hf.next (by omega) (b1 : Int) (b2 : Int))
      rw [hlen] at t1 t2 HNX
      have t4 := t3 (k * 2)
      have t5 := t3 (k * 2 + 1)
      have HGL := hide hGl
      clear p0 p1 p2 hgb hf t3 hb
      have HSN : Hid ((ms.take (k + 1)).map mk2 = A ++ [((b1 : Int), (b2 : Int))]) := by
        show _ = _
        have hkm : k < ms.length := by have := HN.out; omega
        rw [List.take_add_one, List.getElem?_eq_getElem hkm, List.map_append, ← HA.out]
        have e0 : ms.getD k (0, 0, 0) = ms[k] := by rw [List.getD_eq_getElem?_getD, List.getElem?_eq_getElem hkm]; rfl
        rw [← hb1, ← hb2, e0]; rfl
      clear hb1 hb2 hb3
      go_wp2
      go_roundw
      case rel =>
        refine ⟨k + 1, by omega, by go_num, ?_, ?_⟩
        · rw [HSN.out]
          exact HNX.out.move (Below.heap_alloc _ _ _ (by simp only [size_setCell]; exact HGL.out))
        · have q1 := (HB2.out.setCell (p := ⟨w.heap.size, k * 2, none⟩) (Nat.le_refl _) (.int .i64 b1)).setCell (p := ⟨w.heap.size, k * 2 + 1, none⟩) (Nat.le_refl _) (.int .i64 b2)
          exact q1.alloc q1.size _
      case measure => simp [intOf]; omega
    · obtain rfl : k = n := by omega
      have hk' : ¬ (k : Int) < (k : Int) := by omega
      have hfin := hf.om (n := k) (by rw [List.length_map, List.length_take]; have := HN.out; omega) (Nat.le_refl _) (by have := HN.out; have := HL.out; omega)
      rw [List.take_of_length_le (by have := HN.out; omega)] at hfin
      have HF := hide hfin
      have HB := hide hb
      clear hf hfin hb
      go_wp2
      go_ret
      exact ⟨some ⟨w.heap.size, 0, none⟩, k, by rw [← HN.out]; rfl, by have := HF.out; rw [HN.out] at this ⊢; exact this, HB.out⟩
end Go.Proofs.YtmjdpfigkojolaaGreatDoor

