import Derived.Test.YthlbmpmbbdaboaaOix
import Derived.Test.YthlbmpmbbdaboaaHerd
namespace Go.Proofs.Ythlbmpmbbdaboaa
open Go.RowKit Go.Maps
set_option maxRecDepth 20000

/-- A list of ints. -/
def ti (v : Value) (l : List Int) : Thing :=
  ⟨fun w K => OI w 0 v l ∧ (∀ k, v.ownBlock = some k → K k ≠ 0) ∧ ∀ k, K k ≠ 0 → k < w.heap.size,
   fun h a b => ⟨h.1.move fun k hk => b k (h.2.1 k hk), h.2.1, fun k hk => Nat.lt_of_lt_of_le (h.2.2 k hk) a⟩, fun h => h.2.2⟩

theorem Herd.ilist {W w w' : World} {xs : List ((Nat → Nat) × Thing)} (h : Herd W w xs) (hb : Below w.heap.size w w') {v : Value} {l : List Int} (ho : OI w' w.heap.size v l) : ∃ K, Herd W w' (xs ++ [(K, ti v l)]) := by
  refine ⟨fun k => if v.ownBlock = some k then 1 else 0, h.push hb ⟨ho.base (Nat.zero_le _), fun k hk => by simp [hk], fun k hk => ?_⟩ fun k hk => ?_⟩
  · by_cases e : v.ownBlock = some k
    · exact (ho.lt k e).2
    · simp [e] at hk
  · by_cases e : v.ownBlock = some k
    · exact (ho.lt k e).1
    · simp [e] at hk

theorem Herd.isi {W w : World} {xs : List ((Nat → Nat) × Thing)} (H : Herd W w xs) (i : Nat) {K : Nat → Nat} {v : Value} {l : List Int} (hi : xs[i]? = some (K, ti v l)) : SI w v l := by
  have h : (ti v l).P w K := H.rep i _ hi
  exact h.1.sb

theorem Herd.ioi {W w : World} {xs : List ((Nat → Nat) × Thing)} (H : Herd W w xs) (i : Nat) {K : Nat → Nat} {v : Value} {l : List Int} (hi : xs[i]? = some (K, ti v l)) : OI w 0 v l := by
  have h : (ti v l).P w K := H.rep i _ hi
  exact h.1

theorem Herd.iput {W w : World} {xs : List ((Nat → Nat) × Thing)} (H : Herd W w xs) (i : Nat) {K : Nat → Nat} {v : Value} {l : List Int} (hi : xs[i]? = some (K, ti v l)) {k : Nat} (hk : k < l.length) (m : Int) :
    ∃ g c, v = .slice (some ⟨g, 0, none⟩) l.length c ∧ (∃ u, w.cell? ⟨g, k, none⟩ = some u) ∧ w.frozen? ⟨g, k, none⟩ = false ∧ Herd W (w.setCell ⟨g, k, none⟩ (.int .i64 m)) (xs.set i (K, ti v (l.set k m))) := by
  have h : (ti v l).P w K := H.rep i _ hi
  obtain ⟨g, c, hv, h1, h2, h3⟩ := h.1.put hk m
  have hg : K g ≠ 0 := h.2.1 g (by rw [hv]; rfl)
  exact ⟨g, c, hv, h1, h2, H.op i hi (x' := ti v (l.set k m)) ⟨h3, h.2.1, fun k hk => by rw [size_setCell]; exact h.2.2 k hk⟩ ⟨rfl, rfl, rfl, by rw [size_setCell]; exact Nat.le_refl _, fun b _ h0 => setCell_others _ _ _ _ _ (fun e => hg (by rw [← e]; exact h0)), fun _ _ => rfl⟩⟩

/-- New memory with the same ints. -/
theorem icopied_any (v : Value) (l : List Int) (w : World) (h : SI w v l) (hr : l.length ≤ 17592186043904) :
    Calls Try.prog 17 #[v] w fun e w' => ∃ a, e = .returned (.slice a l.length (l.length + 4)) ∧ OI w' w.heap.size (.slice a l.length (l.length + 4)) l ∧ Below w.heap.size w w' := by
  obtain ⟨ao, cap, rfl, hlc, hcm, hnil, hcell⟩ := h
  unfold maxLen at hcm
  have HN : Hid (ao = none → cap = 0) := hnil
  have HC : Hid (∀ x, ao = some x → ∀ i, i < l.length → w.cell? (x.add i) = some (.int .i64 (l.getD i 0))) := hcell
  clear hnil hcell
  go_enter Try.func17, Try.ntmps17
  go_wp2_with (at_make; refine wpList_mkI rfl _ _ rfl _ _ _ _ l.length (l.length + 4) rfl rfl rfl (by first | rfl | (simp; done)) (by omega) (by omega) ?_)
  intro w1 hg hb1
  have Hg : Hid (w1.heap[w.heap.size]? = some (.cells (List.replicate (l.length + 4) (Value.int .i64 0)).toArray 3 (0, 0))) := by
    show _ = _
    rw [hg]; simp
  clear hg
  obtain ⟨cs, hcs⟩ : ∃ cs, cs = l.map (Value.int .i64) := ⟨_, rfl⟩
  have HS : Hid (cs = l.map (Value.int .i64)) := hcs
  clear hcs
  have C1 : Hid (cs.length = Nat.min l.length l.length) := by show _ = _; rw [HS.out]; simp
  have C2 : Hid (0 < cs.length → (some (⟨w.heap.size, 0, none⟩ : Addr)) = some ⟨w.heap.size, 0, none⟩ ∧ ∃ ad, ao = some ad ∧ ∀ j v, cs[j]? = some v → w1.cell? (ad.add j) = some v) := by
    intro hp
    refine ⟨rfl, ?_⟩
    rw [HS.out, List.length_map] at hp
    cases ao with
    | none => have := HN.out rfl; omega
    | some x =>
      refine ⟨x, rfl, fun j u hj => ?_⟩
      rw [HS.out] at hj
      obtain ⟨hjl, rfl⟩ := List.getElem?_eq_some_iff.1 hj
      have hjl' : j < l.length := by simpa using hjl
      have hc := HC.out x rfl j hjl'
      rw [hb1.cell (by have := World.block_lt_of_cell? _ _ hc; exact this), hc]
      simp [hjl']
  have C3 : Hid (0 + cs.length ≤ (List.replicate (l.length + 4) (Value.int .i64 0)).length) := by show _ ≤ _; rw [HS.out]; simp
  have C4 : Hid (∀ v ∈ cs, v.oneCell' = true) := by rw [HS.out]; intro u hu; obtain ⟨n, _, rfl⟩ := List.mem_map.1 hu; rfl
  go_wp2_with (refine wpList_copy_splice rfl _ _ 22 22 rfl 3 Try.underlying22 sizeInt _ _ _ _ _ _ rfl rfl w.heap.size 0 (List.replicate (l.length + 4) (Value.int .i64 0)) 3 Hg.out cs C1.out C2.out C3.out C4.out w.heap.size w hb1 (Nat.le_refl _) ?_)
  intro w2 HG2 hb2
  have HF : Hid (OI w2 w.heap.size (.slice (some ⟨w.heap.size, 0, none⟩) l.length (l.length + 4)) l) := by
    refine ⟨by simp, .inr ⟨w.heap.size, l.length + 4, _, rfl, Nat.le_refl _, HG2.out, by omega, by unfold maxLen; omega, ?_, ?_⟩⟩
    · rw [splice_front _ _ _ _ (by rw [HS.out]; simp)]
      rw [HS.out]; simp
    · rw [splice_front _ _ _ _ (by rw [HS.out]; simp), HS.out]
      rw [List.toList_toArray, List.take_append_of_le_length (by simp)]
      exact List.take_of_length_le (by simp)
  go_wp2
  go_ret
  exact ⟨_, rfl, HF.out, hb2⟩

def mk3 : List Int := [-71, -72, -73]

/-- A list with three marks behind it. -/
def Framed (w : World) (base : Nat) (v : Value) (l : List Int) : Prop := OI w base v (l ++ mk3)

theorem length_fr (l : List Int) : (l ++ mk3).length = l.length + 3 := by rw [List.length_append]; rfl

theorem Framed.form {w : World} {base : Nat} {v : Value} {l : List Int} (h : Framed w base v l) : ∃ g c, v = .slice (some ⟨g, 0, none⟩) (l.length + 3) c ∧ base ≤ g ∧ g < w.heap.size ∧ l.length + 3 ≤ c ∧ c ≤ 9223372036854775807 ∧ SI w (.slice (some ⟨g, 0, none⟩) l.length c) l := by
  obtain ⟨g, c, hv, h1, h2, h3, h4⟩ := OI.form h (by rw [length_fr]; omega)
  rw [length_fr] at hv h3
  have hf := h
  unfold Framed at hf
  rw [hv] at hf
  exact ⟨g, c, hv, h1, h2, h3, h4, OI.front (r := mk3) (by rw [length_fr]; exact hf)⟩

theorem framed_any (v : Value) (l : List Int) (w : World) (h : SI w v l) (hr : l.length ≤ 17592186043904) :
    Calls Try.prog 20 #[v] w fun e w' => ∃ v', e = .returned v' ∧ Framed w' w.heap.size v' l ∧ Below w.heap.size w w' := by
  have H := hide h
  obtain ⟨ao, cap, rfl, hlc, hcm⟩ := h.open
  clear h
  go_enter Try.func20, Try.ntmps20
  go_wp2_with fail
  refine (icopied_any _ l w H.out hr).mono ?_
  rintro e w1 ⟨a1, rfl, ho1, hb1⟩
  have hw1 := hb1.size
  have HB1 := hide hb1
  have HO1 := hide ho1
  clear hb1 ho1
  have HALC : Hid (OI (w1.alloc (.cells #[.int .i64 (-71), .int .i64 (-72), .int .i64 (-73)] 3)) w.heap.size (.slice a1 l.length (l.length + 4)) l) := HO1.out.alloc _
  have HSR : Hid (Src Try.prog 1 22 (.slice (some ⟨w1.heap.size, 0, none⟩) 3 3) mk3.length (mk3.map (Value.int .i64)) (w1.alloc (.cells #[.int .i64 (-71), .int .i64 (-72), .int .i64 (-73)] 3))) := built_srcI w1 mk3
  go_wp2_with (at_builtin; refine wpList_appI rfl _ _ 22 rfl w.heap.size _ _ l mk3 rfl HALC.out rfl HSR.out (by simp [mk3]; omega) (by simp; omega) ?_)
  intro v3 w3 ho3 hgr3
  have HN : Hid (Framed w3 w.heap.size v3 l ∧ Below w.heap.size w w3) := ⟨ho3, (HB1.out.alloc hw1 _).grown hgr3.by (by simp; omega) (fun j hj => by have := HO1.out.lt j hj; omega)⟩
  clear ho3 hgr3
  go_wp2
  go_ret
  exact ⟨_, rfl, HN.out.1, HN.out.2⟩

theorem whole_any (u v : Value) (l : List Int) (w : World) (base : Nat) (h : Framed w base u l) (hs : SI w v l) (hr : l.length ≤ 17592186043904) :
    Calls Try.prog 23 #[u, v] w fun e w' => e = .returned (.bool true) ∧ ∃ n, w' = w.drewN n := by
  obtain ⟨g, c, hv, h1, h2, h3, h4, hsi⟩ := h.form
  have hg : ∀ j, j < 3 → w.cell? ⟨g, l.length + j, none⟩ = some (.int .i64 (mk3.getD j 0)) := fun j hj => by
    have := OI.get h (b := g) (by rw [hv]; rfl) (i := l.length + j) (by rw [length_fr]; omega)
    rw [this]
    simp only [List.getD, List.getElem?_append_right (Nat.le_add_right _ _), Nat.add_sub_cancel_left]
  have c0 : w.cell? ⟨g, l.length, none⟩ = some (.int .i64 (-71)) := hg 0 (by omega)
  have c1 : w.cell? ⟨g, l.length + 1, none⟩ = some (.int .i64 (-72)) := hg 1 (by omega)
  have c2 : w.cell? ⟨g, l.length + 2, none⟩ = some (.int .i64 (-73)) := hg 2 (by omega)
  subst hv
  have HS := hide hs
  have HSI := hide hsi
  obtain ⟨ao, cap, rfl, hlc, hcm⟩ := hs.open
  clear hg h hs hsi
  go_enter Try.func23, Try.ntmps23
  go_wp2_with fail
  refine (isame_any _ _ l l _ HSI.out HS.out).mono ?_
  rintro e w1 ⟨rfl, n, rfl⟩
  go_wp2
  go_ret
  exact ⟨by simp [eqI], n, rfl⟩
end Go.Proofs.Ythlbmpmbbdaboaa
