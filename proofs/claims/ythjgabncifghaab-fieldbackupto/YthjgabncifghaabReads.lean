import Derived.Test.YthjgabncifghaabSpoil
import Derived.Test.YthjgabncifghaabPair
namespace Go.Proofs.Ythjgabncifghaab
open Go.RowKit Go.Maps
set_option maxRecDepth 20000

def marks4 : List Int := [192, 193, 194, 195]

theorem framed_any (v : Value) (l : List Int) (w : World) (h : SB w v l) (hr : l.length ≤ 140737488351232) :
    Calls Try.prog 42 #[v] w fun e w' => ∃ g c, e = .returned (.slice (some ⟨g, 0, none⟩) (l.length + 4) c) ∧ OB w' w.heap.size (.slice (some ⟨g, 0, none⟩) (l.length + 4) c) (l ++ marks4) ∧ Below w.heap.size w w' := by
  obtain ⟨ao, cap, rfl, hlc, hcm, hnil, hcell⟩ := h
  unfold maxLen at hcm
  go_enter Try.func42, Try.ntmps42
  go_wp2_with (at_make; refine wpList_mk rfl _ _ rfl _ _ _ _ l.length (l.length + 4) rfl rfl rfl (by first | rfl | (simp; done)) (by omega) (by omega) ?_)
  intro w1 hg hb1
  have Hg := hide hg
  clear hg
  have HN : Hid (ao = none → cap = 0) := hnil
  have HC : Hid (∀ x, ao = some x → ∀ i, i < l.length → w.cell? (x.add i) = some (.int .u8 (l.getD i 0))) := hcell
  clear hnil hcell
  obtain ⟨cs, hcs⟩ : ∃ cs, cs = l.map (Value.int .u8) := ⟨_, rfl⟩
  have HS : Hid (cs = l.map (Value.int .u8)) := hcs
  clear hcs
  have C1 : Hid (cs.length = Nat.min l.length l.length) := by show _ = _; rw [HS.out]; simp
  have C2 : Hid (0 < cs.length → (some (⟨w.heap.size, 0, none⟩ : Addr)) = some ⟨w.heap.size, 0, none⟩ ∧ ∃ ad, ao = some ad ∧ ∀ j v, cs[j]? = some v → w1.cell? (ad.add j) = some v) := by
    intro hp
    refine ⟨rfl, ?_⟩
    rw [HS.out, List.length_map] at hp
    cases ao with
    | none => have := HN.out rfl; omega
    | some x =>
      refine ⟨x, rfl, fun j u hj => ?_⟩
      rw [HS.out] at hj
      obtain ⟨hjl, rfl⟩ := List.getElem?_eq_some_iff.1 hj
      have hjl' : j < l.length := by simpa using hjl
      have hc := HC.out x rfl j hjl'
      rw [hb1.cell (by have := World.block_lt_of_cell? _ _ hc; exact this), hc]
      simp [hjl']
  have C3 : Hid (0 + cs.length ≤ (List.replicate (l.length + 4) (Value.int .u8 0)).length) := by show _ ≤ _; rw [HS.out]; simp
  have C4 : Hid (∀ v ∈ cs, v.oneCell' = true) := by rw [HS.out]; intro u hu; obtain ⟨n, _, rfl⟩ := List.mem_map.1 hu; rfl
  go_wp2_with (refine wpList_copy_splice rfl _ _ 28 28 rfl 5 Try.underlying28 sizeByte _ _ _ _ _ _ rfl rfl w.heap.size 0 (List.replicate (l.length + 4) (Value.int .u8 0)) 5 Hg.out cs C1.out C2.out C3.out C4.out w.heap.size w hb1 (Nat.le_refl _) ?_)
  intro w2 HG2 hb2
  have HF : Hid (OB w2 w.heap.size (.slice (some ⟨w.heap.size, 0, none⟩) l.length (l.length + 4)) l) := by
    have hg := HG2.out
    rw [splice_front _ _ _ _ (by rw [HS.out]; simp), HS.out] at hg
    exact ⟨by simp, .inr ⟨w.heap.size, l.length + 4, _, rfl, Nat.le_refl _, hg, by omega, by unfold maxLen; omega, by simp, by simp⟩⟩
  have HB2 := hide hb2
  clear C1 C2 C3 C4 HS HN HC Hg HG2 hb1 hb2
  go_wp2_with (at_builtin; refine wpList_app rfl _ _ 28 rfl w.heap.size _ _ l marks4 rfl (HF.out.alloc _) rfl (built_src w2 marks4) (by show _ + 4 ≤ _; omega) (by have := HB2.out.size; simp; omega) ?_)
  intro v' w3 ho hgr
  rcases ho.2 with ⟨_, hx⟩ | ⟨g, c, cur, rfl, k1, k2, k3, k4, k5, k6⟩
  · simp [marks4] at hx
  have e4 : (l ++ marks4).length = l.length + 4 := by simp [marks4]
  rw [e4] at ho
  rw [e4]
  have HO := hide ho
  have HB3 : Hid (Below w.heap.size w w3) := (HB2.out.alloc HB2.out.size _).grown hgr.by (by have := HB2.out.size; simp; omega) (fun k hk => by simp [Value.ownBlock] at hk; omega)
  clear ho hgr k2 k6 k5 k3
  go_wp2
  go_ret
  exact ⟨g, c, rfl, HO.out, HB3.out⟩

theorem SB.cellsAt {w : World} {g o n c : Nat} {l : List Int} (h : SB w (.slice (some ⟨g, o, none⟩) n c) l) : ∀ i, i < l.length → w.cell? ⟨g, o + i, none⟩ = some (.int .u8 (l.getD i 0)) := by
  obtain ⟨ao, cap, he, h1, h2, h3, h4⟩ := h
  simp only [Value.slice.injEq] at he
  intro i hi
  have := h4 ⟨g, o, none⟩ he.1.symm i hi
  rwa [Addr.add_lit] at this

theorem whole_any (v2 : Value) (g c : Nat) (l : List Int) (w : World) (h1 : SB w (.slice (some ⟨g, 0, none⟩) (l.length + 4) c) (l ++ marks4)) (h2 : SB w v2 l) (hr : l.length ≤ 140737488351232) :
    Calls Try.prog 43 #[.slice (some ⟨g, 0, none⟩) (l.length + 4) c, v2] w fun e w' => e = .returned (.bool true) ∧ ∃ n, w' = w.drewN n := by
  have hcl : ∀ i, i < l.length + 4 → w.cell? ⟨g, i, none⟩ = some (.int .u8 ((l ++ marks4).getD i 0)) := fun i hi => by
    have := h1.cellsAt i (by simp [marks4]; omega)
    rwa [Nat.zero_add] at this
  have m0 : w.cell? ⟨g, l.length, none⟩ = some (.int .u8 192) := by rw [hcl l.length (by omega)]; simp [marks4]
  have m1 : w.cell? ⟨g, l.length + 1, none⟩ = some (.int .u8 193) := by rw [hcl (l.length + 1) (by omega)]; simp [marks4]
  have m2 : w.cell? ⟨g, l.length + 2, none⟩ = some (.int .u8 194) := by rw [hcl (l.length + 2) (by omega)]; simp [marks4]
  have m3 : w.cell? ⟨g, l.length + 3, none⟩ = some (.int .u8 195) := by rw [hcl (l.length + 3) (by omega)]; simp [marks4]
  have HCL : Hid (∀ i, i < l.length → w.cell? ⟨g, i, none⟩ = some (.int .u8 (l.getD i 0))) := fun i hi => by
    rw [hcl i (by omega)]; simp [hi, List.getElem?_append_left]
  have H2 := hide h2
  obtain ⟨ao, cap, rfl, hlc, hcm, _⟩ := h2
  unfold maxLen at hcm
  clear hcl h1
  go_enter Try.func43, Try.ntmps43
  go_wp2
  go_loopw [6] (fun i wr => ∃ k n : Nat, k ≤ l.length ∧ i = .int .i64 k ∧ wr = w.drewN n) (fun i _ => l.length - (intOf i).toNat)
  case atStart => exact ⟨0, 0, Nat.zero_le _, rfl, rfl⟩
  case round =>
    obtain ⟨k, n, hk, rfl, rfl⟩ := hrel
    by_cases hlt : k < l.length
    · obtain ⟨x, hx, hcell⟩ : ∃ x : Addr, ao = some x ∧ ∀ i, i < l.length → w.cell? (x.add i) = some (.int .u8 (l.getD i 0)) := by
        obtain ⟨ao', cap', he, a1, a2, a3, a4⟩ := H2.out
        simp only [Value.slice.injEq] at he
        obtain ⟨rfl, _, rfl⟩ := he
        cases ao with
        | none => have := a3 rfl; omega
        | some x => exact ⟨x, rfl, a4 x rfl⟩
      subst hx
      obtain ⟨b, o, rfl⟩ := addr_lit (hcell 0 (by omega))
      obtain ⟨y, c1, c2⟩ : ∃ y, w.cell? ⟨g, k, none⟩ = some (.int .u8 y) ∧ w.cell? ⟨b, o + k, none⟩ = some (.int .u8 y) := ⟨_, HCL.out k hlt, by have := hcell k hlt; rwa [Addr.add_lit] at this⟩
      clear hcell
      go_wp2
      go_quiet (fail)
      go_wp2
      go_roundw
      case rel => exact ⟨k + 1, _, by omega, by go_num, rfl⟩
      case measure => simp [intOf]; omega
    · go_wp2
      go_ret
      exact ⟨rfl, _, rfl⟩

theorem reads_walk (v vo : Value) (l : List Int) (ops : List (Int × Int)) (w : World) (hs : SB w v l) (hsl : l.length ≤ 140737488351232) (hlb : Byt l) (ho : CS w vo ops) :
    Calls Try.prog 7 #[v, vo] w fun e w' => e = .returned (.bool true) ∧ Below w.heap.size w w' := by
  have HS := hide hs
  have HLB := hide hlb
  obtain ⟨av, cv, hv, hlc, hcm, _⟩ := hs
  subst hv
  obtain ⟨ao, cap, rfl, hoc, hom, hops⟩ := ho
  unfold maxLen at hom hcm
  have HOPS := hide hops
  clear hlb hops
  go_enter Try.func7, Try.ntmps7
  go_wp2_with fail
  refine (framed_any _ l w HS.out hsl).mono ?_
  rintro e w1 ⟨g, c, rfl, ho1, hb1⟩
  have HO1 := hide ho1
  have HB1 := hide hb1
  have hgc : l.length + 4 ≤ c ∧ c ≤ 140737488355328 ∨ True := .inr trivial
  obtain ⟨hc4, HIN⟩ : l.length + 4 ≤ c ∧ Hid (OB w1 w.heap.size (.slice (some ⟨g, 0, none⟩) l.length c) l ∧ w.heap.size ≤ g ∧ g < w1.heap.size) := by
    have e4 : (l ++ marks4).length = l.length + 4 := by simp [marks4]
    rcases ho1.2 with ⟨hx, _⟩ | ⟨g', c', cur, he, k1, k2, k3, k4, k5, k6⟩
    · simp at hx
    · rw [e4] at he k3 k6
      simp only [Value.slice.injEq, Option.some.injEq, Addr.mk.injEq] at he
      obtain ⟨⟨rfl, -, -⟩, -, rfl⟩ := he
      refine ⟨k3, ⟨by simp, .inr ⟨g, c, cur, rfl, k1, k2, by omega, k4, k5, ?_⟩⟩, k1, (Array.getElem?_eq_some_iff.1 k2).1⟩
      have h2 := congrArg (List.take l.length) k6
      rw [List.take_take, Nat.min_eq_left (by omega)] at h2
      rw [Nat.mul_one, h2]
      simp
  clear ho1 hb1 hgc
  go_wp2_with fail
  refine (newCursor_any _ l w1 HIN.out.1.sb hsl).mono ?_
  rintro e w2 ⟨g1, u1, rfl, hr1, hb2⟩
  have HR1 := hide hr1
  have HB2 := hide hb2
  clear hr1 hb2
  go_wp2_with fail
  refine (rnewCursor_any _ l w2 ((HS.out.below HB1.out).below (HB2.out)) hsl).mono ?_
  rintro e w3 ⟨r1, x1, rfl, hr2, hb3⟩
  have HR2 := hide hr2
  have HB3 := hide hb3
  clear hr2 hb3
  go_wp2_with fail
  refine (whole_any _ g c l w3 ((HO1.out.sb.below HB2.out).below HB3.out) (((HS.out.below HB1.out).below HB2.out).below HB3.out) hsl).mono ?_
  rintro e w4 ⟨rfl, q, rfl⟩
  go_wp2_with fail
  refine (spoil_any _ l 165 w.heap.size (w3.drewN q) (((HIN.out.1.below HB2.out (Nat.le_refl _)).below HB3.out (Nat.le_refl _)).move (fun _ _ => rfl)) hsl (Nat.le_trans HB1.out.size (Nat.le_trans HB2.out.size HB3.out.size))).mono ?_
  rintro e w5 ⟨rfl, hgr⟩
  obtain ⟨X, HX⟩ : ∃ X : Nat → Prop, Hid (X = fun k => k = g1 ∨ k = r1) := ⟨_, rfl⟩
  have HD1 : Hid (Duo X w.heap.size w5 g1 r1 ⟨l, 0, 0⟩) := by
    have a1 := HR1.out.s.lt
    have a2 := HR2.out.s.lt
    have b1 := HR1.out.a
    have b2 := HR2.out.a
    have c1 := HB1.out.size
    have c2 := HB2.out.size
    have hg := HIN.out.2
    have hR1 := HR1.out.below HB3.out
    have keep : ∀ k, k ≠ g → k < w3.heap.size → w5.heap[k]? = w3.heap[k]? := fun k hk hlt => hgr.block k hlt (by simp [Value.ownBlock]; omega)
    have hRa : Raw 68 w5 w1.heap.size g1 u1 l := ⟨(keep g1 (by omega) hR1.s.lt).trans hR1.s, hR1.d.move (fun k hk => keep k (by have := hR1.b k hk; omega) (by have := hR1.b k hk; have := hR1.s.lt; omega)), hR1.a, hR1.b⟩
    have hRb : Raw 76 w5 w2.heap.size r1 x1 l := ⟨(keep r1 (by omega) HR2.out.s.lt).trans HR2.out.s, HR2.out.d.move (fun k hk => keep k (by have := HR2.out.b k hk; omega) (by have := HR2.out.b k hk; omega)), HR2.out.a, HR2.out.b⟩
    refine ⟨hRa.cu hsl HLB.out (by rw [HX.out]; exact .inl rfl) ?_, hRb.cu hsl HLB.out (by rw [HX.out]; exact .inr rfl) ?_, by omega, by omega, by omega⟩
    · intro k h1 h2; rw [HX.out]; simp only []; omega
    · intro k h1 h2; rw [HX.out]; simp only []; omega
  have HBel : Hid (Below w.heap.size w w5) := by
    have h3 : Below w.heap.size w (w3.drewN q) := below_drewN ((HB1.out.trans (HB2.out.mono HB1.out.size)).trans (HB3.out.mono (Nat.le_trans HB1.out.size HB2.out.size))) q
    exact h3.grown hgr h3.size (fun k hk => by simp [Value.ownBlock] at hk; have := HIN.out.2.1; omega)
  clear HR1 HR2 HB1 HB2 HB3 HO1 HIN HX hgr
  go_wp2
  go_loopw [9] (fun i wr => ∃ k : Nat, k ≤ ops.length ∧ i = .int .i64 k ∧ Hid (∃ st1, Duo X w.heap.size wr g1 r1 st1) ∧ Hid (Below w.heap.size w wr)) (fun i _ => ops.length - (intOf i).toNat)
  case atStart => exact ⟨0, Nat.zero_le _, rfl, ⟨_, HD1.out⟩, HBel.out⟩
  case round =>
    obtain ⟨k, hk, rfl, HQ, HW⟩ := hrel
    clear HD1 HBel
    obtain ⟨st1, hd1⟩ := HQ.out
    have HE1 := hide hd1
    clear hd1 HQ
    by_cases hlt : k < ops.length
    · obtain ⟨o, hoo⟩ : ∃ o, ops[k]? = some o := ⟨ops[k], by simp [hlt]⟩
      obtain ⟨b, of, hab, hc0, hc1⟩ := HOPS.out k o hoo
      subst hab
      have q0 : wr.cell? ⟨b, of + k * 2, none⟩ = some (.int .i64 o.1) := (HW.out.cell (World.block_lt_of_cell? _ _ hc0)).trans hc0
      have q1 : wr.cell? ⟨b, of + k * 2 + 1, none⟩ = some (.int .i64 o.2) := (HW.out.cell (World.block_lt_of_cell? _ _ hc1)).trans hc1
      clear hc0 hc1 hoo
      go_wp2_with fail
      refine (curStep_any HE1.out HW.out.size o.1 o.2).mono ?_
      rintro e wq ⟨rfl, hD, hT⟩
      have HF : Hid (∃ st1, Duo X w.heap.size wq g1 r1 st1) := ⟨_, hD⟩
      have HG : Hid (Below w.heap.size w wq) := HW.out.trans hT.1
      clear hD hT
      go_wp2
      go_roundw
      case rel => exact ⟨k + 1, by omega, by go_num, HF.out, HG.out⟩
      case measure => simp [intOf]; omega
    · go_wp2_with fail
      refine (at_any HE1.out.c).mono ?_
      rintro e w' ⟨rfl, hw⟩
      subst hw
      go_wp2_with fail
      refine (rat_any HE1.out.d).mono ?_
      rintro e w' ⟨rfl, hw⟩
      subst hw
      go_wp2_with fail
      refine (left_any HE1.out.c).mono ?_
      rintro e w' ⟨rfl, qa, hw⟩
      subst hw
      go_wp2_with fail
      refine (rleft_any (HE1.out.drewN qa).d).mono ?_
      rintro e w' ⟨rfl, qb, hw⟩
      subst hw
      go_wp2_with fail
      refine (err_any (HE1.out.drewN _).c).mono ?_
      rintro e w' ⟨rfl, hw⟩
      subst hw
      go_wp2_with fail
      refine (num_any _ _).mono ?_
      rintro e w' ⟨rfl, hw⟩
      subst hw
      go_wp2_with fail
      refine (rerr_any (HE1.out.drewN _).d).mono ?_
      rintro e w' ⟨rfl, hw⟩
      subst hw
      go_wp2
      go_ret
      exact ⟨rfl, below_drewN HW.out _⟩
end Go.Proofs.Ythjgabncifghaab
