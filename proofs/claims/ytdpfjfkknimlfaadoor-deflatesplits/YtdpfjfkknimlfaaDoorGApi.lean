import Derived.Test.YtdpfjfkknimlfaaDoorGSpf
namespace Go.Proofs.YtdpfjfkknimlfaaDoor
open Go.RowKit Go.Maps
set_option maxRecDepth 20000
set_option linter.unusedVariables false
set_option linter.unusedSimpArgs false

theorem OI.setAt {w : World} {base b p j : Nat} {l : List Int} (c : Int) (h : OI w base (.slice (some ⟨b, 0, none⟩) l.length p) l) :
    OI (w.setCell ⟨b, j, none⟩ (.int .i64 c)) base (.slice (some ⟨b, 0, none⟩) l.length p) (l.set j c) := by
  rcases h.2 with ⟨hx, _⟩ | ⟨g, cap, cur, he, h1, h2, h3, h4, h5, h6⟩
  · simp at hx
  · simp only [Value.slice.injEq, Option.some.injEq, Addr.mk.injEq] at he
    obtain ⟨⟨rfl, -, -⟩, -, rfl⟩ := he
    refine ⟨by simp, .inr ⟨b, p, cur.setIfInBounds j (.int .i64 c), by simp, h1, heap_setCell_at _ h2, by simpa using h3, h4, by simpa using h5, ?_⟩⟩
    rw [Nat.mul_one, List.length_set, Array.toList_setIfInBounds, List.map_set]
    rw [Nat.mul_one] at h6
    rw [List.take_set, h6]

theorem OI.cellAt {w : World} {base b p j : Nat} {l : List Int} (h : OI w base (.slice (some ⟨b, 0, none⟩) l.length p) l) (hj : j < l.length) : w.cell? ⟨b, j, none⟩ = some (.int .i64 (l.getD j 0)) ∧ w.frozen? ⟨b, j, none⟩ = false := by
  refine ⟨?_, ?_⟩
  · have := World.ownsRow.cells h (g := b) rfl j (.int .i64 (l.getD j 0)) (by simp [hj])
    rw [Addr.add_lit] at this
    simpa using this
  · rcases h.2 with ⟨hx, _⟩ | ⟨g, cap, cur, he, h1, h2, h3, h4, h5, h6⟩
    · simp at hx
    · simp only [Value.slice.injEq, Option.some.injEq, Addr.mk.injEq] at he
      obtain ⟨⟨rfl, -, -⟩, -, rfl⟩ := he
      simp [World.frozen?, h2]

theorem OI.some {w : World} {base : Nat} {v : Value} {l : List Int} (h : OI w base v l) (hl : 0 < l.length) : ∃ b p, v = .slice (.some ⟨b, 0, none⟩) l.length p ∧ l.length ≤ p ∧ p ≤ 9223372036854775807 := by
  rcases h.2 with ⟨rfl, h0⟩ | ⟨g, cap, cur, rfl, h1, h2, h3, h4, h5, h6⟩
  · omega
  · unfold maxLen at h4
    exact ⟨g, cap, rfl, h3, by omega⟩

theorem SI.len {w : World} {u : Value} {l : List Int} (h : SI w u l) : ∃ a c, u = .slice a l.length c := by
  obtain ⟨a, c, e, -⟩ := h
  exact ⟨a, c, e⟩

theorem SI.same {w w' : World} {v : Value} {l : List Int} (h : SI w v l) (hk : ∀ k, v.ownBlock = some k → w'.heap[k]? = w.heap[k]?) : SI w' v l :=
  h.move fun a u ha hv => by rw [World.cell?_of_block (w := w) (hk a.block hv)]; exact ha

theorem SI.alloc' {w : World} {v : Value} {l : List Int} (h : SI w v l) (o : Obj) : SI (w.alloc o) v l := h.below ((Below.refl _ _).alloc (Nat.le_refl _) o)

theorem OI.prefix {w w' : World} {B B' n c : Nat} {a : Option Addr} {v' : Value} {l r : List Int} (h : OI w B (.slice a n c) l) (h' : OI w' B' v' (l ++ r)) (he : v'.ownBlock = (Value.slice a n c).ownBlock) : SI w' (.slice a n c) l := by
  obtain ⟨ao, cap, hv, h1, h2, h3, h4⟩ := h.sb
  simp only [Value.slice.injEq] at hv
  obtain ⟨rfl, rfl, rfl⟩ := hv
  refine ⟨a, c, rfl, h1, h2, h3, fun x hx i hi => ?_⟩
  subst hx
  rcases h.2 with ⟨hn, _⟩ | ⟨g, cap, cur, hn, _⟩
  · simp at hn
  · simp only [Value.slice.injEq, Option.some.injEq] at hn
    obtain ⟨rfl, -, -⟩ := hn
    rcases h'.2 with ⟨hn', _⟩ | ⟨g', cap', cur', hn', _⟩
    · rw [hn'] at he
      simp [Value.ownBlock] at he
    · rw [hn'] at he
      simp only [Value.ownBlock, Option.some.injEq] at he
      subst he
      have hc := @World.ownsRow.cells _ _ _ _ _ _ _ h' (g := g') (by rw [hn']; rfl) i (.int .i64 (l.getD i 0)) (by rw [List.map_append, List.getElem?_append_left (by simpa using hi)]; simp [hi, List.getD])
      exact hc

theorem own_step {W5 wr w6 : World} {B c : Nat} {a : Option Addr} {vm v' : Value} {l r : List Int} {O : Obj} (hob : OI W5 B (.slice a l.length c) l) (hsb : SI wr (.slice a l.length c) l)
    (hloc : vm.ownBlock = (Value.slice a l.length c).ownBlock ∨ ∀ b, vm.ownBlock = some b → W5.heap.size ≤ b) (hg : W5.grownBy wr (Value.slice a l.length c).ownBlock) (hob6 : OI w6 B v' (l ++ r)) (hgrew : Grew (wr.alloc O) w6 vm v') :
    SI w6 (.slice a l.length c) l ∧ (v'.ownBlock = (Value.slice a l.length c).ownBlock ∨ ∀ b, v'.ownBlock = some b → W5.heap.size ≤ b) ∧ W5.grownBy w6 (Value.slice a l.length c).ownBlock := by
  have hs1 := hg.size
  have hlt := hob.lt
  rcases hgrew with ⟨hv, hw⟩ | ⟨hb, hbel⟩ | ⟨hb, _, hgr⟩
  · subst hv hw
    exact ⟨hsb.alloc' _, hloc, hg.trans (grownBy_alloc' _ _ _)⟩
  · have hs2 := hbel.size
    rw [size_alloc'] at hs2 hb
    refine ⟨(hsb.alloc' _).below hbel, .inr fun b hb' => ?_, ⟨hbel.os.trans hg.os, hbel.tape.trans hg.tape, hbel.output.trans hg.output, by omega, fun k hk hne => ?_⟩⟩
    · rw [hb] at hb'
      simp at hb'
      omega
    · rw [hbel.block k (by rw [size_alloc']; omega), Below.heap_alloc _ _ k (by omega)]
      exact hg.block k hk hne
  · have hs2 := hgr.size
    rw [size_alloc'] at hs2
    rcases hloc with e | e
    · refine ⟨hob.prefix hob6 (hb.trans e), .inl (hb.trans e), ⟨hgr.os.trans hg.os, hgr.tape.trans hg.tape, hgr.output.trans hg.output, by omega, fun k hk hne => ?_⟩⟩
      rw [hgr.block k (by rw [size_alloc']; omega) (by rw [e]; exact hne), Below.heap_alloc _ _ k (by omega)]
      exact hg.block k hk hne
    · refine ⟨(hsb.alloc' _).same fun k hk => hgr.block k (by rw [size_alloc']; have := (hlt k hk).2; omega) (fun e2 => by have := e k e2.symm; have := (hlt k hk).2; omega), .inr fun b hb' => e b (hb.symm.trans hb'), ⟨hgr.os.trans hg.os, hgr.tape.trans hg.tape, hgr.output.trans hg.output, by omega, fun k hk hne => ?_⟩⟩
      rw [hgr.block k (by rw [size_alloc']; omega) (fun e2 => by have := e k e2.symm; omega), Below.heap_alloc _ _ k (by omega)]
      exact hg.block k hk hne

theorem set_mid (m : Int) (L : List Int) (k : Nat) (h : k < L.length) : (List.replicate k m ++ L.drop k).set k m = List.replicate (k + 1) m ++ L.drop (k + 1) := by
  rw [List.set_append_right _ _ (by simp)]
  have e : L.drop k = L[k] :: L.drop (k + 1) := List.drop_eq_getElem_cons h
  have e2 : (L.drop k).set 0 m = m :: L.drop (k + 1) := by rw [e]; rfl
  simp [List.replicate_succ', e2]

theorem SI.at11 {w : World} {a : Option Addr} {c n : Nat} {l : List Int} (h : SI w (.slice a n c) l) (hl : n = l.length) {k : Nat} (hk : k < l.length) : ∃ b o, a = some ⟨b, o, none⟩ ∧ w.cell? ⟨b, o + k, none⟩ = some (.int .i64 (l.getD k 0)) := by
  subst hl
  exact h.get (Below.refl _ _) hk

set_option maxHeartbeats 2000000 in
theorem apartInts_any (va vb : Value) (la lb : List Int) (w : World) (B : Nat) (ha : OI w B va la) (hb : OI w B vb lb) (hne : ∀ k, va.ownBlock = some k → vb.ownBlock ≠ some k) (hla : la.length ≤ 1000000) (hlb : lb.length ≤ 1000000) (hB : B ≤ w.heap.size) :
    Calls Tryd.prog 8 #[va, vb] w fun e w' => e = .returned (.bool true) ∧ Below B w w' := by
  have HA := hide ha
  have HB := hide hb
  have HNE := hide hne
  obtain ⟨aa, ca, hva⟩ := ha.shape
  obtain ⟨ab, cb, hvb⟩ := hb.shape
  subst hva hvb
  have hca : la.length ≤ ca ∧ ca ≤ 9223372036854775807 := by
    obtain ⟨a9, c9, h9, h8, h7, _⟩ := ha.sb
    simp only [Value.slice.injEq] at h9
    obtain ⟨-, -, rfl⟩ := h9
    unfold maxLen at h7
    exact ⟨h8, h7⟩
  have hcb : lb.length ≤ cb ∧ cb ≤ 9223372036854775807 := by
    obtain ⟨a9, c9, h9, h8, h7, _⟩ := hb.sb
    simp only [Value.slice.injEq] at h9
    obtain ⟨-, -, rfl⟩ := h9
    unfold maxLen at h7
    exact ⟨h8, h7⟩
  clear ha hb hne
  go_enter Tryd.func8, Tryd.ntmps8
  go_wp2
  go_loopw [5] (fun i wr => ∃ k : Nat, i = .int .i64 k ∧ k ≤ la.length ∧ Hid (OI wr B (.slice aa la.length ca) (List.replicate k 9 ++ la.drop k)) ∧ Hid (OI wr B (.slice ab lb.length cb) lb) ∧ Hid (Below B w wr)) (fun i _ => la.length - (intOf i).toNat)
  case atStart => exact ⟨0, rfl, Nat.zero_le _, by show OI _ _ _ _; simpa using HA.out, HB, Below.refl _ _⟩
  case round =>
    obtain ⟨k, rfl, hk, HQ, HQB, HBW⟩ := hrel
    by_cases hl2 : k < la.length
    · have hl2' : (k : Int) < (la.length : Int) := by omega
      have hlen : (List.replicate k (9 : Int) ++ la.drop k).length = la.length := by simp; omega
      have HQ' : Hid (OI wr B (.slice aa (List.replicate k (9 : Int) ++ la.drop k).length ca) (List.replicate k 9 ++ la.drop k)) := by rw [hlen]; exact HQ.out
      obtain ⟨b, c', hv', hc1, hc2⟩ := HQ'.out.some (by rw [hlen]; omega)
      simp only [Value.slice.injEq] at hv'
      obtain ⟨rfl, -, rfl⟩ := hv'
      obtain ⟨d0, df⟩ := HQ'.out.cellAt (j := k) (by rw [hlen]; omega)
      have hs := HQ'.out.setAt (j := k) 9
      rw [set_mid 9 la k hl2, hlen] at hs
      have HS := hide hs
      have HO2 : Hid (OI (wr.setCell ⟨b, k, none⟩ (.int .i64 9)) B (.slice ab lb.length cb) lb) := HQB.out.move fun j hj => setCell_others _ _ _ _ _ (fun e => HNE.out b rfl (e ▸ hj))
      have hbB : B ≤ b := (HQ.out.lt b rfl).1
      have HB2 : Hid (Below B w (wr.setCell ⟨b, k, none⟩ (.int .i64 9))) := HBW.out.setCell (p := ⟨b, k, none⟩) hbB _
      clear hs hlen HQ HQ' HQB HBW
      go_wp2
      go_roundw
      case rel => exact ⟨k + 1, by go_num, by omega, HS, HO2, HB2⟩
      case measure => simp [intOf]; omega
    · have hl2' : ¬ (k : Int) < (la.length : Int) := by omega
      have HA2 : Hid (OI wr B (.slice aa la.length ca) (List.replicate la.length 9)) := by
        have h := HQ.out
        rw [List.drop_eq_nil_of_le (by omega), List.append_nil, show k = la.length by omega] at h
        exact h
      obtain ⟨W1, hW1⟩ : ∃ W1, W1 = wr := ⟨_, rfl⟩
      subst hW1
      clear HQ HA HB hl2
      go_wp2
      clear hl2'
      go_loopw [6] (fun i wr => ∃ k : Nat, i = .int .i64 k ∧ k ≤ lb.length ∧ Hid (OI wr B (.slice ab lb.length cb) (List.replicate k 8 ++ lb.drop k)) ∧ Hid (OI wr B (.slice aa la.length ca) (List.replicate la.length 9)) ∧ Hid (Below B w wr)) (fun i _ => lb.length - (intOf i).toNat)
      case atStart => exact ⟨0, rfl, Nat.zero_le _, by show OI _ _ _ _; simpa using HQB.out, HA2, HBW⟩
      case round =>
        clear HQB HA2 HBW
        obtain ⟨k, rfl, hk, HQ, HQB, HBW⟩ := hrel
        by_cases hl2 : k < lb.length
        · have hl2' : (k : Int) < (lb.length : Int) := by omega
          have hlen : (List.replicate k (8 : Int) ++ lb.drop k).length = lb.length := by simp; omega
          have HQ' : Hid (OI wr B (.slice ab (List.replicate k (8 : Int) ++ lb.drop k).length cb) (List.replicate k 8 ++ lb.drop k)) := by rw [hlen]; exact HQ.out
          obtain ⟨b, c', hv', hc1, hc2⟩ := HQ'.out.some (by rw [hlen]; omega)
          simp only [Value.slice.injEq] at hv'
          obtain ⟨rfl, -, rfl⟩ := hv'
          obtain ⟨d0, df⟩ := HQ'.out.cellAt (j := k) (by rw [hlen]; omega)
          have hs := HQ'.out.setAt (j := k) 8
          rw [set_mid 8 lb k hl2, hlen] at hs
          have HS := hide hs
          have HO2 : Hid (OI (wr.setCell ⟨b, k, none⟩ (.int .i64 8)) B (.slice aa la.length ca) (List.replicate la.length 9)) := HQB.out.move fun j hj => setCell_others _ _ _ _ _ (fun e => HNE.out j hj (e ▸ rfl))
          have hbB : B ≤ b := (HQ.out.lt b rfl).1
          have HB2 : Hid (Below B w (wr.setCell ⟨b, k, none⟩ (.int .i64 8))) := HBW.out.setCell (p := ⟨b, k, none⟩) hbB _
          clear hs hlen HQ HQ' HQB HBW
          go_wp2
          go_roundw
          case rel => exact ⟨k + 1, by go_num, by omega, HS, HO2, HB2⟩
          case measure => simp [intOf]; omega
        · have hl2' : ¬ (k : Int) < (lb.length : Int) := by omega
          have HB2 : Hid (OI wr B (.slice ab lb.length cb) (List.replicate lb.length 8)) := by
            have h := HQ.out
            rw [List.drop_eq_nil_of_le (by omega), List.append_nil, show k = lb.length by omega] at h
            exact h
          have HA2 := HQB
          obtain ⟨NA, hNA⟩ : ∃ N, List.replicate la.length (9 : Int) = N := ⟨_, rfl⟩
          obtain ⟨NB, hNB⟩ : ∃ N, List.replicate lb.length (8 : Int) = N := ⟨_, rfl⟩
          rw [hNA] at HA2
          rw [hNB] at HB2
          have eA : NA.length = la.length := by rw [← hNA]; simp
          have eB : NB.length = lb.length := by rw [← hNB]; simp
          have HGA : Hid (∀ i, i < la.length → NA.getD i 0 = 9) := fun i hi => by rw [← hNA]; simp [List.getD, hi]
          have HGB : Hid (∀ i, i < lb.length → NB.getD i 0 = 8) := fun i hi => by rw [← hNB]; simp [List.getD, hi]
          rw [← eA, ← eB]
          rw [← eA] at HA2 hca hla
          rw [← eB] at HB2 hcb hlb hl2'
          have HGA2 : Hid (∀ i, i < NA.length → NA.getD i 0 = 9) := by rw [eA]; exact HGA
          have HGB2 : Hid (∀ i, i < NB.length → NB.getD i 0 = 8) := by rw [eB]; exact HGB
          have HNE2 : Hid (∀ k, (Value.slice aa NA.length ca).ownBlock = some k → (Value.slice ab NB.length cb).ownBlock ≠ some k) := by rw [eA, eB]; exact HNE
          have HBZ : Hid (B ≤ wr.heap.size) := Nat.le_trans hB HBW.out.size
          have HLA : Hid (NA.length + [(5 : Int)].length ≤ 17592186044416) := by show _ ≤ _; simp; omega
          have HLB : Hid (NB.length + [(6 : Int)].length ≤ 17592186044416) := by show _ ≤ _; simp; omega
          clear HQ HQB hl2 hNA hNB HGA HGB eA eB hk HNE
          go_wp2_with (at_builtin; refine wpList_appI rfl _ _ 25 rfl B _ _ NA [5] rfl (HA2.out.alloc _) rfl (built_srcI wr [5]) HLA.out (by rw [size_alloc']; have := HBZ.out; omega) ?_)
          intro vc w6 ho6 hg6
          obtain ⟨sA, lA, gA⟩ := own_step (r := [5]) HA2.out HA2.out.sb (.inl rfl) (World.grownBy.refl _ _) ho6 hg6
          have HB6 : Hid (OI w6 B (.slice ab NB.length cb) NB) := HB2.out.move fun j hj => gA.block j (HB2.out.lt j hj).2 (fun e => HNE2.out j e.symm hj)
          have HBW6 : Hid (Below B w w6) := HBW.out.grown gA HBZ.out (fun j hj => (HA2.out.lt j hj).1)
          have HSA := hide sA
          have HC6 := hide ho6
          have HZ6 : Hid (B ≤ w6.heap.size) := Nat.le_trans HBZ.out gA.size
          have HTA : Hid (∀ j, (Value.slice aa NA.length ca).ownBlock = some j → j < w6.heap.size) := fun j hj => Nat.lt_of_lt_of_le (HA2.out.lt j hj).2 gA.size
          have HLC : Hid (∀ j, vc.ownBlock = some j → (Value.slice ab NB.length cb).ownBlock ≠ some j) := fun j hj e => by
            rcases lA with e1 | e1
            · exact HNE2.out j (e1.symm.trans hj) e
            · have := e1 j hj
              have := (HB2.out.lt j e).2
              omega
          obtain ⟨a6, c6, hv6⟩ := ho6.shape
          rw [show (NA ++ [(5 : Int)]).length = NA.length + 1 by simp] at hv6
          subst hv6
          clear ho6 hg6 sA lA gA HA2 HB2 HBW
          go_wp2_with (at_builtin; refine wpList_appI rfl _ _ 25 rfl B _ _ NB [6] rfl (HB6.out.alloc _) rfl (built_srcI w6 [6]) HLB.out (by rw [size_alloc']; have := HZ6.out; omega) ?_)
          intro vd w7 ho7 hg7
          obtain ⟨sB, lB, gB⟩ := own_step (r := [6]) HB6.out HB6.out.sb (.inl rfl) (World.grownBy.refl _ _) ho7 hg7
          have HBW7 : Hid (Below B w w7) := HBW6.out.grown gB HZ6.out (fun j hj => (HB6.out.lt j hj).1)
          have HSB := hide sB
          have HC7 : Hid (OI w7 B (.slice a6 (NA.length + 1) c6) (NA ++ [5])) := HC6.out.move fun j hj => gB.block j (HC6.out.lt j hj).2 (fun e => HLC.out j hj e.symm)
          have HSA7 : Hid (SI w7 (.slice aa NA.length ca) NA) := HSA.out.same fun j hj => gB.block j (HTA.out j hj) (fun e => HNE2.out j hj e.symm)
          have HD7 := hide ho7
          obtain ⟨a7, c7, hv7⟩ := ho7.shape
          rw [show (NB ++ [(6 : Int)]).length = NB.length + 1 by simp] at hv7
          subst hv7
          clear ho7 hg7 sB lB gB HC6 HSA HB6 HBW6
          have hc6 : NA.length + 1 ≤ c6 ∧ c6 ≤ 9223372036854775807 := by
            obtain ⟨a9, c9, h9, h8, h7, _⟩ := HC7.out.sb
            simp only [Value.slice.injEq] at h9
            obtain ⟨-, -, rfl⟩ := h9
            rw [show (NA ++ [(5 : Int)]).length = NA.length + 1 by simp] at h8
            unfold maxLen at h7
            exact ⟨h8, h7⟩
          have hc7 : NB.length + 1 ≤ c7 ∧ c7 ≤ 9223372036854775807 := by
            obtain ⟨a9, c9, h9, h8, h7, _⟩ := HD7.out.sb
            simp only [Value.slice.injEq] at h9
            obtain ⟨-, -, rfl⟩ := h9
            rw [show (NB ++ [(6 : Int)]).length = NB.length + 1 by simp] at h8
            unfold maxLen at h7
            exact ⟨h8, h7⟩
          go_wp2
          go_loopw [9] (fun i wq => ∃ k : Nat, i = .int .i64 k ∧ k ≤ NA.length ∧ wq = w7) (fun i _ => NA.length - (intOf i).toNat)
          case atStart => exact ⟨0, rfl, Nat.zero_le _, by trivial⟩
          case round =>
            obtain ⟨k, rfl, hk, rfl⟩ := hrel
            by_cases hl3 : k < NA.length
            · have hl3' : (k : Int) < (NA.length : Int) := by omega
              obtain ⟨b, o, rfl, x0⟩ := SI.at11 HSA7.out rfl hl3
              rw [HGA2.out k hl3] at x0
              go_wp2
              go_roundw
              case rel => exact ⟨k + 1, by go_num, by omega, by trivial⟩
              case measure => simp [intOf]; omega
            · have hl3' : ¬ (k : Int) < (NA.length : Int) := by omega
              go_wp2
              go_loopw [10] (fun i wq => ∃ k : Nat, i = .int .i64 k ∧ k ≤ NB.length ∧ wq = wr) (fun i _ => NB.length - (intOf i).toNat)
              case atStart => exact ⟨0, rfl, Nat.zero_le _, by trivial⟩
              case round =>
                obtain ⟨k, rfl, hk, rfl⟩ := hrel
                by_cases hl4 : k < NB.length
                · have hl4' : (k : Int) < (NB.length : Int) := by omega
                  obtain ⟨b, o, rfl, x0⟩ := SI.at11 HSB.out rfl hl4
                  rw [HGB2.out k hl4] at x0
                  go_wp2
                  go_roundw
                  case rel => exact ⟨k + 1, by go_num, by omega, by trivial⟩
                  case measure => simp [intOf]; omega
                · have hl4' : ¬ (k : Int) < (NB.length : Int) := by omega
                  obtain ⟨b6, o6, hb6, x6⟩ := SI.at11 HC7.out.sb (by simp) (k := NA.length) (by simp)
                  obtain ⟨b7, o7, hb7, x7⟩ := SI.at11 HD7.out.sb (by simp) (k := NB.length) (by simp)
                  subst hb6 hb7
                  rw [show (NA ++ [(5 : Int)]).getD NA.length 0 = 5 by simp [List.getD]] at x6
                  rw [show (NB ++ [(6 : Int)]).getD NB.length 0 = 6 by simp [List.getD]] at x7
                  have y1 : (NA.length : Int) < (NA.length : Int) + 1 := by omega
                  have y2 : (NB.length : Int) < (NB.length : Int) + 1 := by omega
                  go_wp2
                  go_ret
                  exact ⟨rfl, HBW7.out⟩
end Go.Proofs.YtdpfjfkknimlfaaDoor

