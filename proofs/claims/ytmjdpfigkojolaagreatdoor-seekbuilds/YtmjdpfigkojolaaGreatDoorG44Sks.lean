import Derived.Test.YtmjdpfigkojolaaGreatDoorG43Skm
import Derived.Maps.AppendAt
namespace Go.Proofs.YtmjdpfigkojolaaGreatDoor
open Go.RowKit Go.Maps
set_option maxRecDepth 20000
set_option linter.unusedVariables false
set_option linter.unusedSimpArgs false

/-! Size, the document's Size and Marks, sameMarks, spoilMarks. -/

theorem hSize {w : World} {B g : Nat} {sz : Int} {ms : List Mk} {K : List Int} {mv kv : Value} (h : Ix w B g sz ms K mv kv) :
    Calls Tryz.prog 11 #[.pointer (some ⟨g, 0, none⟩)] w fun e w' => e = .returned (.int .i64 sz) ∧ w' = w := by
  obtain ⟨c0, -, -, -⟩ := ixO_cells h.box
  clear h
  go_enter Tryz.func11, Tryz.ntmps11
  go_wp2
  go_ret
  exact ⟨rfl, rfl⟩

def qxO (pv wv : Value) (sz : Int) : Obj := .cells #[pv, wv, .int .i64 sz] 78

theorem qxO_cells {w : World} {g : Nat} {sz : Int} {pv wv : Value} (h : w.heap[g]? = some (qxO pv wv sz)) : w.cell? ⟨g, 0, none⟩ = some pv ∧ w.cell? ⟨g, 1, none⟩ = some wv ∧ w.cell? ⟨g, 2, none⟩ = some (.int .i64 sz) ∧ ∀ i, w.frozen? ⟨g, i, none⟩ = false := by
  unfold qxO at h
  refine ⟨?_, ?_, ?_, fun i => ?_⟩
  all_goals first | (unfold World.cell?; rw [h]; rfl) | (unfold World.frozen?; rw [h]; rfl)

theorem hQSize {w : World} {g : Nat} {sz : Int} {pv wv : Value} (h : w.heap[g]? = some (qxO pv wv sz)) :
    Calls Tryz.prog 18 #[.pointer (some ⟨g, 0, none⟩)] w fun e w' => e = .returned (.int .i64 sz) ∧ w' = w := by
  obtain ⟨-, -, c2, -⟩ := qxO_cells h
  clear h
  go_enter Tryz.func18, Tryz.ntmps18
  go_wp2
  go_ret
  exact ⟨rfl, rfl⟩

theorem OM.shape {w : World} {B : Nat} {v : Value} {L : List P2} (h : OM w B v L) : ∃ a c, v = .slice a L.length c ∧ L.length ≤ c ∧ c ≤ 9223372036854775807 := by
  obtain ⟨a, c, hv, h1, h2⟩ := ORp.shape h
  rw [List.length_map] at hv h1
  exact ⟨a, c, hv, h1, h2⟩

theorem fl2_get : ∀ (L : List P2) (k : Nat), k < L.length → (fl2 L)[k * 2]? = some (.int .i64 (L.getD k (0, 0)).1) ∧ (fl2 L)[k * 2 + 1]? = some (.int .i64 (L.getD k (0, 0)).2)
  | [], k, h => by simp at h
  | p :: L, 0, h => by rw [fl2_cons]; exact ⟨rfl, rfl⟩
  | p :: L, k + 1, h => by
    have := fl2_get L k (by simpa using h)
    rw [fl2_cons, show (k + 1) * 2 = k * 2 + 1 + 1 by omega]
    simpa using this

theorem OM.at {w : World} {B : Nat} {v : Value} {L : List P2} (h : OM w B v L) (hL : 0 < L.length) : ∃ g c, v = .slice (some ⟨g, 0, none⟩) L.length c ∧ B ≤ g ∧ L.length ≤ c ∧ c ≤ 9223372036854775807 ∧ (∀ i, w.frozen? ⟨g, i, none⟩ = false) ∧ ∀ k, k < L.length → w.cell? ⟨g, k * 2, none⟩ = some (.int .i64 (L.getD k (0, 0)).1) ∧ w.cell? ⟨g, k * 2 + 1, none⟩ = some (.int .i64 (L.getD k (0, 0)).2) := by
  have hx := h.2.2
  rw [List.length_map] at hx
  rcases hx with ⟨hn, h0⟩ | ⟨g, cap, cur, hv2, hB, hg, h1, h2, h3, h4⟩
  · omega
  subst hv2
  refine ⟨g, cap, rfl, hB, h1, by unfold maxLen at h2; omega, fun i => by simp [World.frozen?, hg], fun k hk => ?_⟩
  obtain ⟨q1, q2⟩ := fl2_get L k hk
  have f : ∀ (j : Nat) (u : Value), (fl2 L)[j]? = some u → w.cell? ⟨g, j, none⟩ = some u := fun j u hu => by
    have := World.ownsRow.cells h.2 (g := g) rfl j u hu
    rwa [Addr.add_lit, Nat.zero_add] at this
  exact ⟨f _ _ q1, f _ _ q2⟩

set_option maxHeartbeats 4000000 in
theorem hsameMarks {w : World} {B1 B2 : Nat} {v1 v2 : Value} {L : List P2} (h1 : OM w B1 v1 L) (h2 : OM w B2 v2 L) (hl : L.length ≤ 268435456) :
    Calls Tryz.prog 16 #[v1, v2] w fun e w' => e = .returned (.bool true) ∧ ∃ n, w' = w.drewN n := by
  have H1 := hide h1
  have H2 := hide h2
  obtain ⟨a1, c1, rfl, q1, q2⟩ := h1.shape
  obtain ⟨a2, c2, rfl, r1, r2⟩ := h2.shape
  obtain ⟨N, HN⟩ : ∃ N, Hid (N = L.length) := ⟨_, rfl⟩
  rw [← HN.out] at q1 r1 ⊢
  clear h1 h2
  go_enter Tryz.func16, Tryz.ntmps16
  go_wp2
  go_loopw [5] (fun i wx => ∃ k : Nat, k ≤ N ∧ i = .int .i64 k ∧ ∃ m, wx = w.drewN m) (fun i _ => N - (intOf i).toNat)
  case atStart => exact ⟨0, Nat.zero_le _, rfl, 0, rfl⟩
  case round =>
    obtain ⟨k, hkn, rfl, m, rfl⟩ := hrel
    by_cases hk : k < N
    · have hk' : (k : Int) < (N : Int) := by omega
      obtain ⟨g1, d1, e1, -, -, -, -, f1⟩ := H1.out.at (by have := HN.out; omega)
      obtain ⟨g2, d2, e2, -, -, -, -, f2⟩ := H2.out.at (by have := HN.out; omega)
      simp only [Value.slice.injEq] at e1 e2
      obtain ⟨rfl, -, rfl⟩ := e1
      obtain ⟨rfl, -, rfl⟩ := e2
      obtain ⟨x0, x1⟩ := f1 k (by have := HN.out; omega)
      obtain ⟨y0, y1⟩ := f2 k (by have := HN.out; omega)
      obtain ⟨p, hp⟩ : ∃ p, L.getD k (0, 0) = p := ⟨_, rfl⟩
      rw [hp] at x0 x1 y0 y1
      obtain ⟨pa, pb⟩ := p
      simp only at x0 x1 y0 y1
      clear f1 f2 hp
      go_wp2
      go_quiet (fail)
      go_wp2
      go_roundw
      case rel => exact ⟨k + 1, by omega, by go_num, _, rfl⟩
      case measure => simp [intOf]; omega
    · obtain rfl : k = N := by omega
      have hk' : ¬ (k : Int) < (k : Int) := by omega
      go_wp2
      go_ret
      exact ⟨rfl, m, rfl⟩

theorem OM.move {w w' : World} {B : Nat} {v : Value} {L : List P2} (h : OM w B v L) (hk : ∀ b, v.ownBlock = some b → w'.heap[b]? = w.heap[b]?) : OM w' B v L := ORp.move h hk

set_option maxHeartbeats 4000000 in
theorem hQMarks {w : World} {B g : Nat} {sz : Int} {pv wv : Value} {L : List P2} (h : w.heap[g]? = some (qxO pv wv sz)) (hm : OM w B pv L) (hL : 0 < L.length) (hl : L.length ≤ 268435456) :
    Calls Tryz.prog 17 #[.pointer (some ⟨g, 0, none⟩)] w fun e w' => ∃ u, e = .returned u ∧ OM w' w.heap.size u L ∧ Below w.heap.size w w' := by
  obtain ⟨c0, -, -, -⟩ := qxO_cells h
  obtain ⟨gp, c, rfl, -, h1, h2, -, hc⟩ := hm.at hL
  obtain ⟨i0, hi0, hz0, hz1, hz2⟩ := info_parts infoMk
  have HC : Hid (∀ (j : Nat) (u : Value), (fl2 L)[j]? = some u → w.cell? ⟨gp, j, none⟩ = some u) := fun j u hu => by
    have := World.ownsRow.cells hm.2 (g := gp) rfl j u hu
    rwa [Addr.add_lit, Nat.zero_add] at this
  have HONE : Hid (∀ u ∈ fl2 L, u.oneCell' = true) := by
    intro u hu
    obtain ⟨r, hr, hur⟩ := List.mem_flatMap.1 hu
    obtain ⟨p, -, rfl⟩ := List.mem_map.1 hr
    simp [p2c] at hur
    rcases hur with rfl | rfl <;> rfl
  clear h hm hc
  go_enter Tryz.func17, Tryz.ntmps17
  go_wp2_with (at_builtin; refine wpList_append_own_at _ rfl _ _ 33 rfl w.heap.size 38 i0 _ 2 16 Tryz.underlying33 hi0 hz0 hz1 hz2 rfl (by omega) (.slice none 0 0) 0 [] rfl (World.ownsRow_nil _ _ _ _) ⟨gp, 0, none⟩ L.length c (fl2 L) rfl (fl2_len L) (fun j u hu => by rw [Addr.add_lit, Nat.zero_add]; exact HC.out j u hu) HONE.out (by unfold maxLen; omega) (by omega) (Nat.le_refl _) ?_)
  intro v' w' g1 g2 g3 g4
  have hb : Below w.heap.size w w' := ⟨g2.os, g2.tape, g2.output, g2.size, fun b hb => g2.block b hb (fun e => by cases e)⟩
  have HO : Hid (OM w' w.heap.size v' L) := ⟨om_sizes L, by rw [List.length_map]; exact g1⟩
  have HB := hide hb
  clear g1 g2 g3 g4 hb
  go_wp2
  go_ret
  exact ⟨_, rfl, HO.out, HB.out⟩

theorem fl2_set (A B : List P2) (s t : P2) : ((fl2 (A ++ s :: B)).set (A.length * 2) (.int .i64 t.1)).set (A.length * 2 + 1) (.int .i64 t.2) = fl2 (A ++ t :: B) := by
  rw [fl2_app, fl2_app, fl2_cons, fl2_cons, ← fl2_len A]
  simp [List.set_append_right]

theorem OM.set {w : World} {B b c j : Nat} {L : List P2} (t : P2) (h : OM w B (.slice (some ⟨b, 0, none⟩) L.length c) L) (hj : j < L.length) :
    OM ((w.setCell ⟨b, j * 2, none⟩ (.int .i64 t.1)).setCell ⟨b, j * 2 + 1, none⟩ (.int .i64 t.2)) B (.slice (some ⟨b, 0, none⟩) L.length c) (L.set j t) := by
  obtain ⟨A, s, C, hL, hA, hS⟩ : ∃ A s C, L = A ++ s :: C ∧ A.length = j ∧ ∀ t, L.set j t = A ++ t :: C := by
    refine ⟨L.take j, L[j], L.drop (j + 1), ?_, by simp; omega, fun t => ?_⟩
    · rw [← List.drop_eq_getElem_cons hj, List.take_append_drop]
    · rw [List.set_eq_take_append_cons_drop, if_pos hj]
  refine ⟨om_sizes _, ?_, ?_⟩
  · have := fl2_len (L.set j t)
    rw [List.length_map]; exact this
  have hx := h.2.2
  rw [List.length_map] at hx
  rcases hx with ⟨hn, _⟩ | ⟨g, cap, cur, he, h1, h2, h3, h4, h5, h6⟩
  · cases hn
  simp only [Value.slice.injEq, Option.some.injEq, Addr.mk.injEq] at he
  obtain ⟨⟨rfl, -, -⟩, -, rfl⟩ := he
  have q1 := heap_setCell_same w b (j * 2) _ _ (.int .i64 t.1) h2
  have q2 := heap_setCell_same _ b (j * 2 + 1) _ _ (.int .i64 t.2) q1
  rw [List.length_map, List.length_set]
  refine .inr ⟨b, c, _, rfl, h1, q2, h3, h4, by simpa using h5, ?_⟩
  have h6' : cur.toList.take (L.length * 2) = fl2 L := h6
  simp only [Array.toList_setIfInBounds]
  rw [List.take_set, List.take_set, h6', hS]
  subst hA
  rw [hL]
  exact fl2_set A C s t

theorem mv2_refl (X : Nat → Prop) (w : World) : Mv2 X w w := ⟨rfl, rfl, rfl, Nat.le_refl _, fun _ _ _ => rfl⟩

theorem Mv2.set {X : Nat → Prop} {w w' : World} (h : Mv2 X w w') {b k : Nat} (hb : X b ∨ w.heap.size ≤ b) (u : Value) : Mv2 X w (w'.setCell ⟨b, k, none⟩ u) :=
  ⟨h.os, h.tape, h.output, by rw [size_setCell]; exact h.size, fun c hc hX => (setCell_others _ _ _ _ c (fun e => by subst e; rcases hb with q | q; exact hX q; omega)).trans (h.blk c hc hX)⟩

set_option maxHeartbeats 4000000 in
theorem hspoilMarks {w : World} {v : Value} {L : List P2} (h : OM w 0 v L) (hL : 0 < L.length) (hl : L.length ≤ 268435455) :
    Calls Tryz.prog 19 #[v] w fun e w' => e = .returned (.tuple #[]) ∧ Mv2 (fun b => v.ownBlock = some b) w w' := by
  obtain ⟨g, c, rfl, -, h1, h2, -, -⟩ := h.at hL
  obtain ⟨i0, hi0, hz0, hz1, hz2⟩ := info_parts infoMk
  have H := hide h
  obtain ⟨N, HN⟩ : ∃ N, Hid (N = L.length) := ⟨_, rfl⟩
  rw [← HN.out] at h1 ⊢
  clear h
  go_enter Tryz.func19, Tryz.ntmps19
  go_wp2
  go_loopw [2] (fun i wx => ∃ k : Nat, k ≤ N ∧ i = .int .i64 k ∧ (∃ M : List P2, M.length = N ∧ OM wx 0 (.slice (some ⟨g, 0, none⟩) N c) M) ∧ Mv2 (fun b => b = g) w wx) (fun i _ => N - (intOf i).toNat)
  case atStart => exact ⟨0, Nat.zero_le _, rfl, ⟨L, HN.out.symm, by rw [HN.out]; exact H.out⟩, mv2_refl _ _⟩
  case round =>
    obtain ⟨k, hkn, rfl, ⟨M, hM, hom⟩, hmv⟩ := hrel
    by_cases hk : k < N
    · have hk' : (k : Int) < (N : Int) := by omega
      have hom' : OM wr 0 (.slice (some ⟨g, 0, none⟩) M.length c) M := by rw [hM]; exact hom
      obtain ⟨g', c', e', -, -, -, fz, hc⟩ := hom'.at (by omega)
      simp only [Value.slice.injEq, Option.some.injEq, Addr.mk.injEq] at e'
      obtain ⟨⟨rfl, -, -⟩, -, rfl⟩ := e'
      obtain ⟨x0, x1⟩ := hc k (by omega)
      have z0 := fz (k * 2)
      have z1 := fz (k * 2 + 1)
      have HS := hide (hom'.set (j := k) ((3 : Int), (1 : Int)) (by omega))
      have HMV := hide ((hmv.set (b := g) (k := k * 2) (.inl rfl) (.int .i64 3)).set (b := g) (k := k * 2 + 1) (.inl rfl) (.int .i64 1))
      have HM := hide hM
      clear hom hom' hmv hc fz hM
      go_wp2
      go_roundw
      case rel => exact ⟨k + 1, by omega, by go_num, ⟨M.set k (3, 1), by rw [List.length_set]; exact HM.out, by have := HS.out; rw [HM.out] at this; exact this⟩, HMV.out⟩
      case measure => simp [intOf]; omega
    · obtain rfl : k = N := by omega
      have hk' : ¬ (k : Int) < (k : Int) := by omega
      have HMV := hide hmv
      have HML := hide hM
      have howal : (wr.alloc (.cells #[.int .i64 9, .int .i64 9] 38)).ownsRow 0 38 2 (.slice (some ⟨g, 0, none⟩) k c) k (fl2 M) := by
        have := (ORp.alloc hom (.cells #[.int .i64 9, .int .i64 9] 38)).2
        rw [List.length_map, hM] at this
        exact this
      have HOW := hide howal
      have hkk : k ≤ 268435455 := by have := HN.out; omega
      clear hom hmv hM howal
      go_wp2_with (at_builtin; refine wpList_append_own_at _ rfl _ _ 33 rfl 0 38 i0 _ 2 16 Tryz.underlying33 hi0 hz0 hz1 hz2 rfl (by omega) (.slice (some ⟨g, 0, none⟩) k c) k (fl2 M) rfl HOW.out ⟨wr.heap.size, 0, none⟩ 1 1 [.int .i64 9, .int .i64 9] rfl rfl (World.news_of_block (heap_alloc_new wr _)) (by simp [Value.oneCell']) (by unfold maxLen; omega) (by omega) (Nat.zero_le _) ?_)
      intro v' w' g1 g2 g3 g4
      have hom9 : OM w' 0 v' (M ++ [((9 : Int), (9 : Int))]) := by
        refine ⟨om_sizes _, ?_⟩
        have e : flr ((M ++ [((9 : Int), (9 : Int))]).map p2c) = fl2 M ++ [.int .i64 9, .int .i64 9] := fl2_app M [(9, 9)]
        rw [e, List.length_map, List.length_append, HML.out]
        exact g1
      have hl9 : (M ++ [((9 : Int), (9 : Int))]).length = k + 1 := by rw [List.length_append, HML.out]; rfl
      obtain ⟨g9, c9, hv9, -, q1, q2, fz, hc⟩ := hom9.at (by omega)
      rw [hl9] at hv9 q1
      subst hv9
      obtain ⟨x0, x1⟩ := hc 0 (by omega)
      rw [Nat.zero_mul] at x0 x1
      have z0 := fz 0
      have z1 := fz (0 + 1)
      have hsz := HMV.out.size
      have hm9 : Mv2 (fun b => b = g) w w' := by
        have b1 := (Below.refl wr.heap.size wr).alloc (Nat.le_refl _) (.cells #[.int .i64 9, .int .i64 9] 38)
        have s1 := b1.size
        have s2 := g2.size
        exact ⟨g2.os.trans (b1.os.trans HMV.out.os), g2.tape.trans (b1.tape.trans HMV.out.tape), g2.output.trans (b1.output.trans HMV.out.output), by omega, fun b hb hn => (g2.block b (by omega) (fun e => hn (by simpa [Value.ownBlock] using e))).trans ((b1.block b (by omega)).trans (HMV.out.blk b hb hn))⟩
      have hg9 : g9 = g ∨ w.heap.size ≤ g9 := by
        rcases g4 with e | e
        · exact .inl (by simpa [Value.ownBlock] using e)
        · right; simp [Value.ownBlock] at e; omega
      have HE := hide ((hm9.set (b := g9) (k := 0) hg9 (.int .i64 3)).set (b := g9) (k := 0 + 1) hg9 (.int .i64 1))
      have q3 : (0 : Int) < ((k + 1 : Nat) : Int) := by omega
      clear g1 g2 g3 g4 hom9 hl9 hc fz hm9 hg9
      go_wp2
      go_end0
      exact ⟨rfl, ⟨HE.out.os, HE.out.tape, HE.out.output, HE.out.size, fun b hb hn => HE.out.blk b hb (fun e => hn (by rw [e]; rfl))⟩⟩
end Go.Proofs.YtmjdpfigkojolaaGreatDoor

