import Derived.Test.YtdfggdafflkkcaaGPur
import Derived.Test.YtdfggdafflkkcaaGHp
import Derived.Test.YtdfggdafflkkcaaGInt
namespace Go.Proofs.Ytdfggdafflkkcaa
open Go.RowKit Go.Maps
set_option maxRecDepth 20000
set_option linter.unusedVariables false

/-- The heap's row and the row of nodes with numbers tell the same. -/
def Hz (R : List (H4.It Int)) (Z : List Znd) : Prop := R.map (fun x => (x.key, x.val)) = Z.map fun z => ((z.1.1 : Int), (z.2 : Int))

theorem Hz.len {R : List (H4.It Int)} {Z : List Znd} (h : Hz R Z) : R.length = Z.length := by
  have := congrArg List.length h
  simpa using this

theorem Hz.at {R : List (H4.It Int)} {Z : List Znd} (h : Hz R Z) {i : Nat} (hi : i < Z.length) : (H4.pt R i).key = ((Z.getD i (nod0, 0)).1.1 : Int) ∧ (H4.pt R i).val = ((Z.getD i (nod0, 0)).2 : Int) := by
  have hr : i < R.length := by rw [h.len]; exact hi
  have e := congrArg (fun l => l[i]?) h
  simp only [List.getElem?_map, List.getElem?_eq_getElem hr, List.getElem?_eq_getElem hi, Option.map_some, Option.some.injEq, Prod.mk.injEq] at e
  rw [H4.pt_eq hr, show Z.getD i (nod0, 0) = Z[i] by simp [hi]]
  exact e

theorem zro_get (Z : List Znd) (i : Nat) : (zro Z).getD i nod0 = (Z.getD i (nod0, 0)).1 := by
  simp only [zro, List.getD_eq_getElem?_getD, List.getElem?_map]
  cases Z[i]? <;> rfl

theorem Hz.fst {R : List (H4.It Int)} {Z : List Znd} (h : Hz R Z) (k : Nat) (hk : k < Z.length) : H4.fstTo R (k + 1) = lgk (zro Z) k := by
  induction k with
  | zero =>
    show (if _ then 0 else 0) = 0
    split <;> rfl
  | succ k ih =>
    have ih := ih (by omega)
    have e : H4.fstTo R (k + 2) = if (H4.pt R (k + 1)).key < (H4.pt R (H4.fstTo R (k + 1))).key then k + 1 else H4.fstTo R (k + 1) := rfl
    have hle := lgk_le (zro Z) k
    rw [e, ih, (h.at hk).1, (h.at (i := lgk (zro Z) k) (by omega)).1]
    simp only [lgk, zro_get]
    by_cases c : (Z.getD (k + 1) (nod0, 0)).1.1 < (Z.getD (lgk (zro Z) k) (nod0, 0)).1.1
    · rw [if_pos c, if_pos (by omega)]
    · rw [if_neg c, if_neg (by omega)]

theorem Hz.pop {R : List (H4.It Int)} {Z : List Znd} (h : Hz R Z) (h0 : 0 < Z.length) : H4.pkK R = ((zfi Z).1.1 : Int) ∧ H4.pkV R = ((zfi Z).2 : Int) ∧ Hz (H4.rest R) (zwo Z) := by
  have hr : 0 < R.length := by rw [h.len]; exact h0
  have hne : ¬ R = [] := fun e => by rw [e] at hr; simp at hr
  have e : H4.fstTo R R.length = zlg Z := by
    have := h.fst (Z.length - 1) (by omega)
    rw [show Z.length - 1 + 1 = Z.length by omega] at this
    rw [h.len, this]
    unfold zlg lgt
    rw [zro_len]
  have hl := zlg_lt h0
  have ha := h.at hl
  refine ⟨?_, ?_, ?_⟩
  · unfold H4.pkK; rw [if_neg hne, e]; exact ha.1
  · unfold H4.pkV; rw [if_neg hne, e]; exact ha.2
  · unfold H4.rest zwo Hz
    rw [e, ← erase_map, ← erase_map]
    rw [show R.map (fun x => (x.key, x.val)) = _ from h]

theorem Hz.push {R : List (H4.It Int)} {Z : List Znd} (h : Hz R Z) (n : Int) (x : Nod) (j : Nat) : Hz (R ++ [⟨x.1, n, j⟩]) (Z ++ [(x, j)]) := by
  unfold Hz at h ⊢
  rw [List.map_append, List.map_append, h]
  rfl

/-- What lies in memory while nodes are joined. -/
structure Jst (w wr : World) (K : Nat → Nat) (R : List (H4.It Int)) (t : Nat) (Z : List Znd) : Prop where
  q : H4.Hq wr K w.heap.size R t
  z : Hz R Z
  up : ∀ k, K k ≠ 0 → w.heap.size ≤ k
  b : Below w.heap.size w wr

theorem Jst.start (w : World) (o : Obj) (ho : o = .cells #[.slice none 0 0, .int .i64 0] 67) : ∃ K, Jst w (w.alloc o) K [] 0 [] := by
  refine ⟨fun k => if k = w.heap.size then 1 else 0, ⟨.inl ⟨rfl, rfl, by rw [ho]; exact heap_alloc_new w _⟩, by simp, fun k hk => ?_⟩, rfl, fun k hk => ?_, (Below.refl _ _).alloc (Nat.le_refl _) _⟩
  · by_cases e : k = w.heap.size
    · rw [e]; simp
    · simp [e] at hk
  · by_cases e : k = w.heap.size
    · omega
    · simp [e] at hk

theorem Jst.fr {w wr w' : World} {K K' : Nat → Nat} {R R' : List (H4.It Int)} {t t' : Nat} {Z Z' : List Znd} (h : Jst w wr K R t Z) (hq : H4.Hq w' K' w.heap.size R' t') (hz : Hz R' Z') (hf : H4.Fr K K' wr w') : Jst w w' K' R' t' Z' :=
  ⟨hq, hz, hf.up h.up h.b.size, h.b.trans (hf.below h.up h.b.size)⟩

/-- A write elsewhere. -/
theorem Jst.far {w wr w' : World} {K : Nat → Nat} {R : List (H4.It Int)} {t : Nat} {Z : List Znd} (h : Jst w wr K R t Z) (hs : wr.heap.size ≤ w'.heap.size) (hb : ∀ k, K k ≠ 0 → w'.heap[k]? = wr.heap[k]?) (hb2 : Below w.heap.size w w') : Jst w w' K R t Z :=
  ⟨h.q.far hs hb, h.z, h.up, hb2⟩

/-- The list of holders. -/
def hls (N : Nat) (H : Nat → Nat) : List Int := (List.range N).map fun v => (H v : Int)

theorem hls_len (N : Nat) (H : Nat → Nat) : (hls N H).length = N := by simp [hls]

theorem hls_set (N : Nat) (H : Nat → Nat) (a b j : Nat) : ((hls N H).set a j).set b j = hls N (upd H a b j) := by
  apply List.ext_getElem
  · simp [hls]
  · intro i h1 h2
    simp only [List.getElem_set, hls, List.getElem_map, List.getElem_range, upd]
    by_cases c : b = i
    · have c' : i = b := c.symm
      simp only [if_pos c, if_pos c']
    · have c' : ¬ i = b := fun e => c e.symm
      by_cases d : a = i
      · have d' : i = a := d.symm
        simp only [if_neg c, if_neg c', if_pos d, if_pos d']
      · have d' : ¬ i = a := fun e => d e.symm
        simp only [if_neg c, if_neg c', if_neg d, if_neg d']

theorem hls_zero (N : Nat) : hls N (fun _ => 0) = List.replicate N 0 := by simp [hls, List.map_const']

/-- Total weight of a row. -/
def zsum (Z : List Znd) : Nat := (Z.map fun z => z.1.1).sum

theorem zsum_two {Z : List Znd} (h : 2 ≤ Z.length) : (zfi Z).1.1 + (zfi (zwo Z)).1.1 + zsum (zwo (zwo Z)) = zsum Z := by
  have := perm_sum (fun z : Znd => z.1.1) (zperm2 h)
  unfold zsum
  rw [this]
  simp
  omega

theorem zsum_st {Z : List Znd} (h : 2 ≤ Z.length) (j : Nat) : zsum (zst Z j) = zsum Z := by
  rw [← zsum_two h]
  unfold zsum zst
  rw [List.map_append, List.sum_append]
  have e : (hjn (zro Z)).1 = (zfi Z).1.1 + (zfi (zwo Z)).1.1 := by
    unfold hjn
    rw [zfi_fst, zfi_fst, zro_wo]
  simp [e]
  omega

theorem zfi_mem {Z : List Znd} (h : 2 ≤ Z.length) : zfi Z ∈ Z ∧ zfi (zwo Z) ∈ Z := by
  have := zperm2 h
  exact ⟨this.symm.subset (by simp), this.symm.subset (by simp)⟩

theorem zwo2 {Z : List Znd} (h : 2 ≤ Z.length) : 0 < (zwo Z).length := by rw [zwo_len (by omega)]; omega
end Go.Proofs.Ytdfggdafflkkcaa

namespace Go.Proofs.Ytdfggdafflkkcaa
open Go.RowKit Go.Maps
set_option maxRecDepth 20000
set_option linter.unusedVariables false

/-- The state of the joining, so many joinings done. -/
structure Jrd (w wr : World) (n : Nat) (F : Nat → Nat) (h t : Nat) : Prop where
  ex : ∃ K R Z H, Jst w wr K R (n + t) Z ∧ OI wr w.heap.size (.slice (some ⟨h, 0, none⟩) (2 * n - 2) (2 * n - 2)) (hls (2 * n - 2) H) ∧ K h = 0 ∧ w.heap.size ≤ h ∧ h < wr.heap.size ∧ Znum Z (n + t) ∧ Z.length = n - t ∧ zsum Z ≤ 1236950581248 ∧ hids (n - 1 - t) Z (n + t) H = F

theorem pushK {w wr w' : World} {K K' : Nat → Nat} {h : Nat} (hf : H4.Fr K K' wr w') (hh : h < wr.heap.size) (h0 : K h = 0) : K' h = 0 := by rw [hf.role h hh]; exact h0

theorem oiFr {w wr w' : World} {K K' : Nat → Nat} {h n c base : Nat} {l : List Int} (hf : H4.Fr K K' wr w') (ho : OI wr base (.slice (some ⟨h, 0, none⟩) n c) l) (hh : h < wr.heap.size) (h0 : K h = 0) : OI w' base (.slice (some ⟨h, 0, none⟩) n c) l :=
  ho.move fun k hk => by
    simp only [Value.ownBlock, Option.some.injEq] at hk
    subst hk
    exact hf.block _ hh h0

set_option maxHeartbeats 1000000 in
theorem hold_any (v : Value) (l : List Int) (Z0 : List Znd) (w : World) (h : SI w v l) (hz : l = Z0.map fun z => (z.1.1 : Int)) (hid : Z0.map (·.2) = List.range Z0.length) (h2 : 2 ≤ Z0.length) (hN : Z0.length ≤ 288) (hs : zsum Z0 ≤ 1236950581248) :
    Calls Try.prog 23 #[v] w fun e w' => ∃ a c, e = .returned (.slice a (2 * Z0.length - 2) c) ∧ OI w' w.heap.size (.slice a (2 * Z0.length - 2) c) (hls (2 * Z0.length - 2) (hids (Z0.length - 1) Z0 Z0.length fun _ => 0)) ∧ Below w.heap.size w w' := by
  have HS := hide h
  have hl : l.length = Z0.length := by rw [hz]; simp
  obtain ⟨ao, cap, rfl, hlc, hcm⟩ := h.open
  have HZ : Hid (∀ k, k < Z0.length → l.getD k 0 = ((Z0.getD k (nod0, 0)).1.1 : Int) ∧ (Z0.getD k (nod0, 0)).2 = k ∧ Z0.take (k + 1) = Z0.take k ++ [Z0.getD k (nod0, 0)]) := fun k hk => by
    refine ⟨?_, ?_, ?_⟩
    · rw [hz]; simp [hk]
    · have := congrArg (fun l => l[k]?) hid
      simp only [List.getElem?_map, List.getElem?_eq_getElem hk, Option.map_some, List.getElem?_range hk, Option.some.injEq] at this
      rw [show Z0.getD k (nod0, 0) = Z0[k] by simp [hk]]
      exact this
    · rw [List.take_succ_eq_append_getElem hk, show Z0.getD k (nod0, 0) = Z0[k] by simp [hk]]
  have HNUM : Hid (Znum Z0 Z0.length) := ⟨by rw [hid]; exact List.nodup_range, fun z hz' => by
    have : z.2 ∈ Z0.map (·.2) := List.mem_map_of_mem hz'
    rw [hid] at this
    exact List.mem_range.1 this⟩
  rw [hl] at HS hlc ⊢
  have HSI : Hid (SI w (.slice ao l.length cap) l) := by rw [hl]; exact HS.out
  have HL := hide hl
  have HSUM := hide hs
  clear hz hid h hl HS hs
  obtain ⟨F, HF⟩ : ∃ F, Hid (F = hids (Z0.length - 1) Z0 Z0.length fun _ => 0) := ⟨_, rfl⟩
  rw [← HF.out]
  obtain ⟨n, HNN⟩ : ∃ n, Hid (n = Z0.length) := ⟨_, rfl⟩
  rw [← HNN.out] at HF HNUM h2 hN hlc ⊢
  have HL' : Hid (l.length = n) := HL.out.trans HNN.out.symm
  clear HL
  go_enter Try.func23, Try.ntmps23
  go_wp2_with fail
  refine (H4.new_any w).mono ?_
  rintro e w1 ⟨rfl, hw1⟩
  obtain ⟨K1, hj1⟩ := Jst.start w _ (show Obj.cells #[.slice none 0 0, .int .i64 0] 67 = _ from rfl)
  rw [← hw1] at hj1
  have HJ1 := hide hj1
  clear hw1 hj1
  go_wp2
  go_loopw [17] (fun i wr => ∃ k : Nat, k ≤ n ∧ i = .int .i64 k ∧ Hid (∃ K R, Jst w wr K R k (Z0.take k))) (fun i _ => n - (intOf i).toNat)
  case atStart => exact ⟨0, Nat.zero_le _, rfl, K1, [], HJ1.out⟩
  case round =>
    obtain ⟨k, hk, rfl, HJ⟩ := hrel
    by_cases hlt : k < n
    · have hlt' : (k : Int) < (n : Int) := by omega
      obtain ⟨K, R, hj⟩ := HJ.out
      obtain ⟨z1, z2, z3⟩ := HZ.out k (by rw [← HNN.out]; exact hlt)
      obtain ⟨b, o, rfl, hc⟩ := HSI.out.get hj.b (k := k) (by rw [HL'.out]; exact hlt)
      rw [z1] at hc
      obtain ⟨z, HZZ⟩ : ∃ z, Hid (z = Z0.getD k (nod0, 0)) := ⟨_, rfl⟩
      rw [← HZZ.out] at hc z2 z3
      have hRl : R.length ≤ k := by rw [hj.z.len, List.length_take]; exact Nat.min_le_left _ _
      have HJJ := hide hj
      have HT := hide z3
      have HE2 := hide z2
      clear z1 z2 z3 hj HJ
      go_wp2_with fail
      refine (H4.push_any HJJ.out.q _ _ (by omega) (by omega)).mono ?_
      rintro e w2 ⟨rfl, K', hq', hf'⟩
      have HN : Hid (∃ K R, Jst w w2 K R (k + 1) (Z0.take (k + 1))) := by
        refine ⟨K', _, HJJ.out.fr hq' ?_ hf'⟩
        have := HJJ.out.z.push (k : Int) z.1 k
        rw [HT.out]
        have e : z = (z.1, k) := by rw [← HE2.out]
        rw [e]
        exact this
      clear hq' hf'
      go_wp2
      go_roundw
      case rel => exact ⟨k + 1, by omega, by go_num, HN⟩
      case measure => simp [intOf]; omega
    · obtain rfl : k = n := by omega
      have hlt' : ¬ (k : Int) < (k : Int) := by omega
      have HJ2 : Hid (∃ K R, Jst w wr K R k Z0) := by have := HJ.out; rwa [List.take_of_length_le (by rw [← HNN.out]; exact Nat.le_refl _)] at this
      clear HJ
      have e1 : IntKind.i64.wrap (2 * (k : Int)) = 2 * (k : Int) := by rw [IntKind.wrap_i64]; omega
      have e2 : IntKind.i64.wrap (2 * (k : Int) - 2) = ((2 * k - 2 : Nat) : Int) := by rw [IntKind.wrap_i64]; omega
      obtain ⟨K, R, hj⟩ := HJ2.out
      have HJJ := hide hj
      have hwr := hj.b.size
      clear hj HJ2
      go_wp2_with (at_make; refine wpList_mkI rfl _ _ rfl _ _ _ _ (2 * k - 2) (2 * k - 2) rfl rfl (by first | rfl | omega) (by first | rfl | omega) (Nat.le_refl _) (by omega) ?_)
      intro w2 hg hb2
      have HO2 := hide (mk_oi hg (by omega))
      have HB2 := hide hb2
      have hK0 : K wr.heap.size = 0 := by
        apply Classical.byContradiction
        intro c
        have := HJJ.out.q.sup _ c
        omega
      have HR0 : Hid (Jrd w w2 k F wr.heap.size 0) := by
        refine ⟨K, R, Z0, fun _ => 0, ?_, ?_, hK0, hwr, ?_, ?_, ?_, HSUM.out, ?_⟩
        · exact HJJ.out.far hb2.size (fun k hk => hb2.block k (HJJ.out.q.sup k hk)) (HJJ.out.b.trans (hb2.mono hwr))
        · rw [hls_zero]; exact HO2.out.base hwr
        · exact (HO2.out.lt _ rfl).2
        · exact HNUM.out
        · rw [← HNN.out]; omega
        · rw [HF.out]; exact congrArg (fun q => hids q Z0 k fun _ => 0) rfl
      clear hg hb2 hK0 e1 e2 HJJ HO2 HB2
      obtain ⟨B, HBB⟩ : ∃ B, Hid (B = wr.heap.size) := ⟨_, rfl⟩
      rw [← HBB.out] at HR0 ⊢
      go_wp2
      go_loopw [7] (fun j wq => ∃ t : Nat, t + 1 ≤ k ∧ j = .int .i64 ((k : Int) + t) ∧ Hid (Jrd w wq k F B t)) (fun j _ => 2 * k - (intOf j).toNat)
      case atStart => exact ⟨0, by omega, by simp, HR0⟩
      case round =>
        obtain ⟨t, ht, rfl, HR⟩ := hrel
        obtain ⟨K, R, Z, H, hj, ho, hK, hB1, hB2, hnum, hZl, hsum, hF⟩ := HR.out.ex
        have hRl : R.length = k - t := hj.z.len.trans hZl
        have HJJ := hide hj
        have HO := hide ho
        have HNU := hide hnum
        have HZL := hide hZl
        have HSU := hide hsum
        have HFF := hide hF
        have HRL := hide hRl
        have hlenC := H4.len_any hj.q
        obtain ⟨m, hm⟩ : ∃ m : Nat, m = R.length := ⟨_, rfl⟩
        rw [← hm] at hlenC
        have hm' : m = k - t := hm.trans hRl
        clear hj ho hnum hZl hsum hF hRl hm HR
        by_cases hmore : 1 < m
        · have hmore' : (1 : Int) < (m : Int) := by omega
          have hz2 : 2 ≤ Z.length := by rw [HZL.out]; omega
          obtain ⟨p1, p2, p3⟩ := HJJ.out.z.pop (by omega)
          obtain ⟨q1, q2, q3⟩ := p3.pop (zwo2 hz2)
          have hP1 := H4.pop_any HJJ.out.q (by rw [HRL.out]; omega)
          rw [p1, p2] at hP1
          have hid1 := HNU.out.lt _ (zfi_mem hz2).1
          have hid2 := HNU.out.lt _ (zfi_mem hz2).2
          have hsm := zsum_two hz2
          have hss := HSU.out
          have HST : Hid (zst Z (k + t) = zwo (zwo Z) ++ [(hjn (zro Z), k + t)]) := rfl
          have hjw : (hjn (zro Z)).1 = (zfi Z).1.1 + (zfi (zwo Z)).1.1 := by
            unfold hjn
            rw [zfi_fst, zfi_fst, zro_wo]
          have HHI : Hid (hids (k - 1 - (t + 1)) (zst Z (k + t)) (k + (t + 1)) (upd H (zfi Z).2 (zfi (zwo Z)).2 (k + t)) = F) := by
            show _ = _
            rw [← HFF.out, show k - 1 - t = k - 1 - (t + 1) + 1 by omega]
            rfl
          have HNU2 := hide (HNU.out.st hz2)
          have HZL2 := hide (zst_len hz2 (k + t))
          have HSU2 := hide (zsum_st hz2 (k + t))
          have HQ2 : Hid (H4.pkK (H4.rest R) = ((zfi (zwo Z)).1.1 : Int) ∧ H4.pkV (H4.rest R) = ((zfi (zwo Z)).2 : Int)) := ⟨q1, q2⟩
          obtain ⟨a1, HA1⟩ : ∃ x, Hid (x = (zfi Z).1.1) := ⟨_, rfl⟩
          obtain ⟨i1, HI1⟩ : ∃ x, Hid (x = (zfi Z).2) := ⟨_, rfl⟩
          obtain ⟨a2, HA2⟩ : ∃ x, Hid (x = (zfi (zwo Z)).1.1) := ⟨_, rfl⟩
          obtain ⟨i2, HI2⟩ : ∃ x, Hid (x = (zfi (zwo Z)).2) := ⟨_, rfl⟩
          rw [← HA1.out] at hP1 hsm hjw
          rw [← HI1.out] at hP1 hid1 HHI
          rw [← HA2.out] at hsm hjw HQ2
          rw [← HI2.out] at hid2 HHI HQ2
          have HZ3 : Hid (Hz (H4.rest (H4.rest R)) (zwo (zwo Z))) := q3
          have HJW := hide hjw
          have ha : a1 + a2 ≤ 1236950581248 := by omega
          have hi1 : i1 < 2 * k - 2 := by omega
          have hi2 : i2 < 2 * k - 2 := by omega
          have hRl2 : (H4.rest R).length + 1 = k - t := by rw [← HRL.out]; exact H4.rest_len (fun e => by have := HRL.out; rw [e] at this; simp at this; omega)
          have hRl3 : (H4.rest (H4.rest R)).length + 2 = k - t := by
            have := H4.rest_len (R := H4.rest R) (fun e => by rw [e] at hRl2; simp at hRl2; omega)
            omega
          have HRL2 := hide hRl2
          have HRL3 := hide hRl3
          clear p1 p2 p3 q1 q2 q3 hsm hss hjw hRl2 hRl3
          go_wp2_with fail
          refine hlenC.mono ?_
          rintro e w3 ⟨rfl, rfl⟩
          go_wp2_with fail
          refine hP1.mono ?_
          rintro e w4 ⟨rfl, hq4, hf4⟩
          obtain ⟨pb1, hpb1⟩ : ∃ b, b = H4.pkB R := ⟨_, rfl⟩
          rw [← hpb1]
          clear hpb1
          have hP2 := H4.pop_any hq4 (by have := HRL2.out; omega)
          rw [HQ2.out.1, HQ2.out.2] at hP2
          obtain ⟨pb2, hpb2⟩ : ∃ b, b = H4.pkB (H4.rest R) := ⟨_, rfl⟩
          rw [← hpb2] at hP2
          clear hpb2
          have HF4 := hide hf4
          clear hf4 hq4
          go_wp2_with fail
          refine hP2.mono ?_
          rintro e w5 ⟨rfl, hq5, hf5⟩
          have HF5 := hide (HF4.out.trans hf5)
          have HQ5 := hide hq5
          have ho5 := oiFr (w := w) HF5.out HO.out hB2 hK
          have hB5 : B < w5.heap.size := Nat.lt_of_lt_of_le hB2 HF5.out.size
          obtain ⟨⟨u1, hu1⟩, hfz1, ho6⟩ := ho5.putg (k := i1) (by rw [hls_len]; exact hi1) ((k : Int) + t)
          obtain ⟨⟨u2, hu2⟩, hfz2, ho7⟩ := ho6.putg (k := i2) (by rw [List.length_set, hls_len]; exact hi2) ((k : Int) + t)
          have HO7 : Hid (OI ((w5.setCell ⟨B, i1, none⟩ (.int .i64 ((k : Int) + t))).setCell ⟨B, i2, none⟩ (.int .i64 ((k : Int) + t))) w.heap.size (.slice (some ⟨B, 0, none⟩) (2 * k - 2) (2 * k - 2)) (hls (2 * k - 2) (upd H i1 i2 (k + t)))) := by
            rw [← hls_set]
            rw [show ((k + t : Nat) : Int) = (k : Int) + t by omega]
            exact ho7
          have hi1' : (i1 : Int) < ((2 * k - 2 : Nat) : Int) := by omega
          have hi2' : (i2 : Int) < ((2 * k - 2 : Nat) : Int) := by omega
          clear hf5 hq5 ho5 ho6 ho7
          obtain ⟨w7, HW7⟩ : ∃ w7, Hid (w7 = (w5.setCell ⟨B, i1, none⟩ (.int .i64 ((k : Int) + t))).setCell ⟨B, i2, none⟩ (.int .i64 ((k : Int) + t))) := ⟨_, rfl⟩
          have hK5 : K B = 0 := hK
          have HJ7 : Hid (Jst w w7 K (H4.rest (H4.rest R)) (k + t) (zwo (zwo Z))) := by
            have hJ5 := HJJ.out.fr HQ5.out HZ3.out HF5.out
            refine hJ5.far (by rw [HW7.out, size_setCell, size_setCell]; exact Nat.le_refl _) (fun b hb => ?_) ?_
            · have hne : b ≠ B := fun e => hb (by rw [e]; exact hK5)
              rw [HW7.out, setCell_others _ _ _ _ _ hne, setCell_others _ _ _ _ _ hne]
            · rw [HW7.out]; exact (hJ5.b.setCell hB1 _).setCell hB1 _
          have hwa : IntKind.i64.wrap ((a1 : Int) + (a2 : Int)) = ((a1 + a2 : Nat) : Int) := by rw [IntKind.wrap_i64]; omega
          have hP8 := H4.push_any HJ7.out.q ((a1 + a2 : Nat) : Int) ((k : Int) + t) (by have := HRL3.out; omega) (by omega)
          rw [HW7.out] at hP8
          have hO8 : Hid (OI w7 w.heap.size (.slice (some ⟨B, 0, none⟩) (2 * k - 2) (2 * k - 2)) (hls (2 * k - 2) (upd H i1 i2 (k + t)))) := by rw [HW7.out]; exact HO7.out
          have hB7 : B < w7.heap.size := by rw [HW7.out, size_setCell, size_setCell]; exact hB5
          go_wp2_with fail
          refine hP8.mono ?_
          rintro e w8 ⟨rfl, K', hq8, hf8⟩
          rw [← HW7.out] at hf8
          have HR9 : Hid (Jrd w w8 k F B (t + 1)) := by
            refine ⟨K', _, zst Z (k + t), _, HJ7.out.fr hq8 ?_ hf8, oiFr (w := w) hf8 hO8.out hB7 hK5, pushK (w := w) hf8 hB7 hK5, hB1, Nat.lt_of_lt_of_le hB7 hf8.size, HNU2.out, ?_, ?_, HHI.out⟩
            · have := HJ7.out.z.push ((k + t : Nat) : Int) (hjn (zro Z)) (k + t)
              rw [HJW.out] at this
              rw [HST.out]
              exact this
            · rw [HZL2.out, HZL.out]; omega
            · rw [HSU2.out]; exact HSU.out
          clear hq8 hf8
          go_wp2
          go_roundw
          case rel => exact ⟨t + 1, by omega, by go_num, HR9⟩
          case measure => simp [intOf]; omega
        · have hmore' : ¬ (1 : Int) < (m : Int) := by omega
          have HFIN : Hid (OI wr w.heap.size (.slice (some ⟨B, 0, none⟩) (2 * k - 2) (2 * k - 2)) (hls (2 * k - 2) F) ∧ Below w.heap.size w wr) := by
            refine ⟨?_, HJJ.out.b⟩
            have e : H = F := by
              have := HFF.out
              rw [show k - 1 - t = 0 by omega] at this
              exact this
            rw [← e]
            exact HO.out
          go_wp2_with fail
          refine hlenC.mono ?_
          rintro e w3 ⟨rfl, rfl⟩
          go_wp2
          go_ret
          exact ⟨_, _, rfl, HFIN.out.1, HFIN.out.2⟩
end Go.Proofs.Ytdfggdafflkkcaa

namespace Go.Proofs.Ytdfggdafflkkcaa
open Go.RowKit Go.Maps
set_option maxRecDepth 20000
set_option linter.unusedVariables false

/-- Depths from the last number down, so many told. -/
def dn (H : Nat → Nat) (r : Nat) : Nat → List Int
  | 0 => List.replicate (r + 1) 0
  | j + 1 => (dn H r j).set (r - 1 - j) ((dn H r j).getD (H (r - 1 - j)) 0 + 1)

theorem dn_len (H : Nat → Nat) (r j : Nat) : (dn H r j).length = r + 1 := by
  induction j with
  | zero => simp [dn]
  | succ j ih => simp [dn, ih]

theorem dn_keep (H : Nat → Nat) (r j i v : Nat) (hv : r ≤ v + j) (hj : j + i ≤ r) : (dn H r (j + i)).getD v 0 = (dn H r j).getD v 0 := by
  induction i with
  | zero => rfl
  | succ i ih =>
    rw [← ih (by omega)]
    show ((dn H r (j + i)).set (r - 1 - (j + i)) _).getD v 0 = _
    rw [List.getD_eq_getElem?_getD, List.getElem?_set_ne (by omega), ← List.getD_eq_getElem?_getD]

theorem dn_root (H : Nat → Nat) (r j : Nat) (hj : j ≤ r) : (dn H r j).getD r 0 = 0 := by
  have := dn_keep H r 0 j r (by omega) (by omega)
  rw [Nat.zero_add] at this
  rw [this]
  simp [dn]

theorem dn_step (H : Nat → Nat) (r v : Nat) (hv : v < r) (hH : v < H v) : (dn H r r).getD v 0 = (dn H r r).getD (H v) 0 + 1 := by
  have e1 := dn_keep H r (r - v) v v (by omega) (by omega)
  have e2 := dn_keep H r (r - 1 - v) (v + 1) (H v) (by omega) (by omega)
  rw [show r - v + v = r by omega] at e1
  rw [show r - 1 - v + (v + 1) = r by omega] at e2
  rw [e1, e2, show r - v = r - 1 - v + 1 by omega]
  show ((dn H r (r - 1 - v)).set (r - 1 - (r - 1 - v)) _).getD v 0 = _
  rw [show r - 1 - (r - 1 - v) = v by omega]
  rw [List.getD_eq_getElem?_getD, List.getElem?_set_self (by rw [dn_len]; omega)]
  rfl

theorem dn_bound (H : Nat → Nat) (r j v : Nat) : 0 ≤ (dn H r j).getD v 0 ∧ (dn H r j).getD v 0 ≤ j := by
  induction j generalizing v with
  | zero =>
    simp only [dn, List.getD_eq_getElem?_getD, List.getElem?_replicate]
    split <;> simp
  | succ j ih =>
    show 0 ≤ ((dn H r j).set (r - 1 - j) _).getD v 0 ∧ _
    by_cases c : r - 1 - j = v
    · subst c
      by_cases d : r - 1 - j < (dn H r j).length
      · have h := ih (H (r - 1 - j))
        have e : ((dn H r j).set (r - 1 - j) ((dn H r j).getD (H (r - 1 - j)) 0 + 1)).getD (r - 1 - j) 0 = (dn H r j).getD (H (r - 1 - j)) 0 + 1 := by
          rw [List.getD_eq_getElem?_getD, List.getElem?_set_self d]
          rfl
        simp only [dn, e]
        omega
      · rw [dn_len] at d; omega
    · have h := ih v
      have e : ((dn H r j).set (r - 1 - j) ((dn H r j).getD (H (r - 1 - j)) 0 + 1)).getD v 0 = (dn H r j).getD v 0 := by
        rw [List.getD_eq_getElem?_getD, List.getElem?_set_ne c, ← List.getD_eq_getElem?_getD]
      simp only [dn, e]
      omega

theorem hls_get {N v : Nat} (H : Nat → Nat) (h : v < N) : (hls N H).getD v 0 = (H v : Int) := by
  unfold hls
  rw [List.getD_eq_getElem?_getD, List.getElem?_map, List.getElem?_range h]
  rfl

set_option maxHeartbeats 1000000 in
theorem join_any (v : Value) (l : List Int) (Z0 : List Znd) (w : World) (h : SI w v l) (hz : l = Z0.map fun z => (z.1.1 : Int)) (hid : Z0.map (·.2) = List.range Z0.length) (h2 : 2 ≤ Z0.length) (hN : Z0.length ≤ 288) (hs : zsum Z0 ≤ 1236950581248) :
    Calls Try.prog 17 #[v] w fun e w' => ∃ a c, e = .returned (.slice a Z0.length c) ∧ SI w' (.slice a Z0.length c) ((dn (hids (Z0.length - 1) Z0 Z0.length fun _ => 0) (2 * Z0.length - 2) (2 * Z0.length - 2)).take Z0.length) ∧ Below w.heap.size w w' := by
  have hl : l.length = Z0.length := by rw [hz]; simp
  have hC := hold_any v l Z0 w h hz hid h2 hN hs
  obtain ⟨ao, cap, rfl, hlc, hcm⟩ := h.open
  have hup : ∀ v, v + 1 < 2 * Z0.length - 1 → v < hids (Z0.length - 1) Z0 Z0.length (fun _ => 0) v ∧ hids (Z0.length - 1) Z0 Z0.length (fun _ => 0) v < 2 * Z0.length - 1 := fun v hv => by
    have hnum : Znum Z0 Z0.length := ⟨by rw [hid]; exact List.nodup_range, fun z hz' => by
      have : z.2 ∈ Z0.map (·.2) := List.mem_map_of_mem hz'
      rw [hid] at this
      exact List.mem_range.1 this⟩
    have := hids_up (Z0.length - 1) Z0 Z0.length (fun _ => 0) hnum (by omega) v (by omega) (by
      by_cases c : v < Z0.length
      · left; rw [hid]; exact List.mem_range.2 c
      · right; omega) (by omega)
    exact ⟨this.1, by have := this.2; omega⟩
  obtain ⟨H, HH⟩ : ∃ H, Hid (H = hids (Z0.length - 1) Z0 Z0.length fun _ => 0) := ⟨_, rfl⟩
  rw [← HH.out] at hC hup ⊢
  rw [hl] at hlc hC ⊢
  obtain ⟨n, HNN⟩ : ∃ n, Hid (n = Z0.length) := ⟨_, rfl⟩
  rw [← HNN.out] at hC hup h2 hN hlc ⊢
  have HUP := hide hup
  clear hz hid h hl hs hup
  obtain ⟨r, hr⟩ : ∃ r, r = 2 * n - 2 := ⟨_, rfl⟩
  rw [← hr] at hC ⊢
  have hr2 : 2 * n - 1 = r + 1 := by omega
  rw [hr2] at HUP
  have hrn : n ≤ r := by omega
  have hrm : r ≤ 574 := by omega
  clear hr hr2
  go_enter Try.func17, Try.ntmps17
  go_wp2_with fail
  refine hC.mono ?_
  rintro e w1 ⟨a1, c1, rfl, ho1, hb1⟩
  have HO1 := hide ho1
  have hcap := OI.sb ho1
  obtain ⟨ax, cx, hx, hx1, hx2⟩ := hcap.open
  simp only [Value.slice.injEq] at hx
  obtain ⟨rfl, -, rfl⟩ := hx
  rw [hls_len] at hx1
  have HB1 := hide hb1
  have hw1 := hb1.size
  clear ho1 hb1 hcap
  have e1 : IntKind.i64.wrap ((r : Int) + 1) = ((r + 1 : Nat) : Int) := by rw [IntKind.wrap_i64]; omega
  go_wp2_with (at_make; refine wpList_mkI rfl _ _ rfl _ _ _ _ (r + 1) (r + 1) rfl rfl (by first | rfl | omega) (by first | rfl | omega) (Nat.le_refl _) (by omega) ?_)
  intro w2 hg hb2
  have HO2 : Hid (OI w2 w1.heap.size (.slice (some ⟨w1.heap.size, 0, none⟩) (r + 1) (r + 1)) (dn H r 0)) := mk_oi hg (by omega)
  have HB2 := hide hb2
  obtain ⟨B, HBB⟩ : ∃ B, Hid (B = w1.heap.size) := ⟨_, rfl⟩
  rw [← HBB.out] at HO2 ⊢
  clear hg hb2 e1
  go_wp2
  go_loopw [5] (fun i wr => ∃ k j : Nat, k + j = r ∧ i = .int .i64 ((k : Int) - 1) ∧ Hid (OI wr B (.slice (some ⟨B, 0, none⟩) (r + 1) (r + 1)) (dn H r j)) ∧ Hid (Below B w1 wr)) (fun i _ => ((intOf i) + 1).toNat)
  case atStart => exact ⟨r, 0, rfl, rfl, HO2, by rw [HBB.out]; exact HB2⟩
  case round =>
    obtain ⟨k, j, hkj, rfl, HO, HB⟩ := hrel
    by_cases h0 : k = 0
    · subst h0
      obtain rfl : j = r := by omega
      have h0' : ¬ (0 : Int) ≤ ((0 : Nat) : Int) - 1 := by omega
      have HF : Hid (SI wr (.slice (some ⟨B, 0, none⟩) n (j + 1)) ((dn H j j).take n)) := by
        have h := HO.out
        rw [← List.take_append_drop n (dn H j j)] at h
        have hlen : ((dn H j j).take n).length = n := by rw [List.length_take, dn_len]; omega
        have h' : OI wr B (.slice (some ⟨B, 0, none⟩) ((dn H j j).take n ++ (dn H j j).drop n).length (j + 1)) ((dn H j j).take n ++ (dn H j j).drop n) := by
          rw [List.length_append, hlen, List.length_drop, dn_len, show n + (j + 1 - n) = j + 1 by omega]
          exact h
        have := OI.front h'
        rwa [hlen] at this
      have HBF : Hid (Below w.heap.size w wr) := HB1.out.trans (by have := HB.out; rw [HBB.out] at this; exact this.mono hw1)
      have hns : n ≤ j + 1 := by omega
      go_wp2
      go_ret
      exact ⟨_, _, rfl, HF.out, HBF.out⟩
    · obtain ⟨m, rfl⟩ : ∃ m, k = m + 1 := ⟨k - 1, by omega⟩
      have e1 : ((m + 1 : Nat) : Int) - 1 = m := by omega
      rw [e1]
      have hm0 : (0 : Int) ≤ m := by omega
      obtain ⟨hu1, hu2⟩ := HUP.out m (by omega)
      have HO1w : Hid (SI wr (.slice a1 (hls r H).length c1) (hls r H)) := by
        have := (HO1.out.sb).below (by have := HB.out; rw [HBB.out] at this; exact this)
        rw [hls_len]; exact this
      obtain ⟨b, o, rfl, hc⟩ := HO1w.out.get (Below.refl _ _) (k := m) (by rw [hls_len]; omega)
      rw [hls_get H (by omega)] at hc
      obtain ⟨q, hq⟩ : ∃ q, q = H m := ⟨_, rfl⟩
      rw [← hq] at hc hu1 hu2
      have hrd := OI.get HO.out (b := B) rfl (i := q) (by rw [dn_len]; omega)
      have hbn := dn_bound H r j q
      obtain ⟨y, HY⟩ : ∃ y, Hid (y = (dn H r j).getD q 0) := ⟨_, rfl⟩
      rw [← HY.out] at hrd hbn
      have HST : Hid (dn H r (j + 1) = (dn H r j).set m (y + 1)) := by
        show (dn H r j).set (r - 1 - j) _ = _
        rw [show r - 1 - j = m by omega, HY.out, hq]
      obtain ⟨⟨u, hu⟩, hfz, ho⟩ := HO.out.putg (k := m) (by rw [dn_len]; omega) (y + 1)
      have HN : Hid (OI (wr.setCell ⟨B, m, none⟩ (.int .i64 (y + 1))) B (.slice (some ⟨B, 0, none⟩) (r + 1) (r + 1)) (dn H r (j + 1))) := by rw [HST.out]; exact ho
      have HBN : Hid (Below B w1 (wr.setCell ⟨B, m, none⟩ (.int .i64 (y + 1)))) := HB.out.setCell (Nat.le_refl _) _
      have hwy : IntKind.i64.wrap (y + 1) = y + 1 := by rw [IntKind.wrap_i64]; omega
      have hmr : (m : Int) < (r : Int) := by omega
      have hqr : (q : Int) < (r : Int) + 1 := by omega
      clear ho e1 hq
      go_wp2
      go_roundw
      case rel => exact ⟨m, j + 1, by omega, by go_num, HN, HBN⟩
      case measure => simp [intOf]
end Go.Proofs.Ytdfggdafflkkcaa

namespace Go.Proofs.Ytdfggdafflkkcaa
open Go.RowKit Go.Maps
set_option maxRecDepth 20000
set_option linter.unusedVariables false

def fq (l : List Int) (s : Nat) : Nat := (l.getD s 0).toNat

/-- Depths' length of a symbol. -/
def dp (l : List Int) (s : Nat) : Nat := if (us l).length = 1 then (if s ∈ us l then 1 else 0) else hrun ((us l).length - 1) (leafs (fq l) (us l)) (fun _ => 0) s

def dpt (l : List Int) : List Int := (List.range l.length).map fun s => (dp l s : Int)
def dptE (l : List Int) : Int := if 288 < l.length then 1 else if bnb l 4294967296 = false then 61 else 0
def dptL (l : List Int) : List Int := if dptE l = 0 then dpt l else []

theorem dpt_len (l : List Int) : (dpt l).length = l.length := by simp [dpt]

theorem done_out {row : List Nod} {len len' : Nat → Nat} (h : Done row len len') {s : Nat} (hs : s ∉ syms row) : len' s = len s := by
  induction h with
  | one n len => rfl
  | join x y rest hs' hp _ _ hh hp2 _ ih =>
    have hps := syms_perm hp
    have hx : s ∉ x.2 ++ y.2 := fun hm => hs (hps.symm.subset (by
      simp only [syms, List.flatMap_cons]
      rcases List.mem_append.1 hm with q | q
      · exact List.mem_append_left _ q
      · exact List.mem_append_right _ (List.mem_append_left _ q)))
    have hnh : s ∉ hs' := fun hm => hx (hh.subset hm)
    rw [ih ?_, bmp_out hnh]
    intro hm
    have := (syms_perm hp2).subset hm
    simp only [syms, List.flatMap_cons] at this
    rcases List.mem_append.1 this with q | q
    · exact hnh q
    · exact hs (hps.symm.subset (by
        simp only [syms, List.flatMap_cons]
        exact List.mem_append_right _ (List.mem_append_right _ q)))

theorem leafs_len (f : Nat → Nat) (S : List Nat) : (leafs f S).length = S.length := by simp [leafs]

theorem dp_out {l : List Int} {s : Nat} (h : s ∉ us l) : dp l s = 0 := by
  unfold dp
  by_cases c : (us l).length = 1
  · rw [if_pos c, if_neg h]
  · rw [if_neg c]
    by_cases d : (us l).length = 0
    · rw [d]; rfl
    · exact done_out (hrun_done _ _ _ (by rw [leafs_len]; omega)) (by rw [syms_leafs]; exact h)

theorem dpt_spr (l : List Int) : spr l.length (us l) (fun s => (dp l s : Int)) = dpt l := by
  unfold spr dpt
  refine List.map_congr_left fun s _ => ?_
  by_cases h : s ∈ us l
  · rw [if_pos h]
  · rw [if_neg h, dp_out h]; rfl

theorem dpt_few {l : List Int} (h : (us l).length < 2) : spr l.length (us l) (fun _ => 1) = dpt l := by
  unfold spr dpt
  refine List.map_congr_left fun s _ => ?_
  by_cases hs : s ∈ us l
  · have h1 : (us l).length = 1 := by
      have := List.length_pos_of_mem hs
      omega
    rw [if_pos hs]
    unfold dp
    rw [if_pos h1, if_pos hs]
    rfl
  · rw [if_neg hs, dp_out hs]; rfl

def zl (l : List Int) : List Znd := (leafs (fq l) (us l)).zip (List.range (us l).length)

theorem zl_len (l : List Int) : (zl l).length = (us l).length := by simp [zl, leafs_len]
theorem zl_row (l : List Int) : zro (zl l) = leafs (fq l) (us l) := by
  unfold zro zl
  rw [List.map_fst_zip]
  simp [leafs_len]
theorem zl_ids (l : List Int) : (zl l).map (·.2) = List.range (us l).length := by
  unfold zl
  rw [List.map_snd_zip]
  simp [leafs_len]

theorem zl_weights (l : List Int) : ((us l).map fun s => l.getD s 0) = (zl l).map fun z => (z.1.1 : Int) := by
  have e : ((zl l).map fun z => (z.1.1 : Int)) = (zro (zl l)).map fun n => (n.1 : Int) := by simp [zro, Function.comp_def]
  rw [e, zl_row]
  unfold leafs
  rw [List.map_map]
  refine List.map_congr_left fun s hs => ?_
  have := (mem_us.1 hs).2
  simp only [Function.comp_apply, fq]
  omega

theorem fq_le {l : List Int} (h : bnd l 4294967296 l.length) {s : Nat} (hs : s ∈ us l) : 1 ≤ fq l s ∧ fq l s ≤ 4294967296 := by
  obtain ⟨h1, h2⟩ := mem_us.1 hs
  have := h s h1
  unfold fq
  omega

theorem sum_le {S : List Nat} {f : Nat → Nat} {b : Nat} (h : ∀ s ∈ S, f s ≤ b) : (S.map f).sum ≤ b * S.length := by
  induction S with
  | nil => simp
  | cons a r ih =>
    have h1 := ih fun s hs => h s (List.mem_cons_of_mem _ hs)
    have h2 := h a (by simp)
    simp only [List.map_cons, List.sum_cons, List.length_cons, Nat.mul_add, Nat.mul_one]
    omega

theorem us_le {l : List Int} : (us l).length ≤ l.length := usk_len l l.length

theorem tot_le {l : List Int} (h : bnd l 4294967296 l.length) (hl : l.length ≤ 288) : ((us l).map (fq l)).sum ≤ 1236950581248 := by
  have := sum_le (S := us l) (f := fq l) (b := 4294967296) fun s hs => (fq_le h hs).2
  have h2 := us_le (l := l)
  omega

theorem zl_sum {l : List Int} (h : bnd l 4294967296 l.length) (hl : l.length ≤ 288) : zsum (zl l) ≤ 1236950581248 := by
  have e : zsum (zl l) = ((zro (zl l)).map (·.1)).sum := by simp [zsum, zro, Function.comp_def]
  rw [e, zl_row, fst_leafs]
  exact tot_le h hl

theorem zl_num (l : List Int) : Znum (zl l) (us l).length := by
  refine ⟨by rw [zl_ids]; exact List.nodup_range, fun z hz => ?_⟩
  have : z.2 ∈ (zl l).map (·.2) := List.mem_map_of_mem hz
  rw [zl_ids] at this
  exact List.mem_range.1 this

/-- What the program reckons is what the joining counts. -/
theorem join_eq {l : List Int} (h2 : 2 ≤ (us l).length) :
    (dn (hids ((us l).length - 1) (zl l) (us l).length fun _ => 0) (2 * (us l).length - 2) (2 * (us l).length - 2)).take (us l).length = (us l).map fun s => (dp l s : Int) := by
  obtain ⟨n, hn⟩ : ∃ n, n = (us l).length := ⟨_, rfl⟩
  obtain ⟨H, hH⟩ : ∃ H, H = hids ((us l).length - 1) (zl l) (us l).length fun _ => 0 := ⟨_, rfl⟩
  have hup : ∀ v, v + 1 < 2 * n - 1 → v < H v ∧ H v < 2 * n - 1 := fun v hv => by
    have := hids_up ((us l).length - 1) (zl l) (us l).length (fun _ => 0) (zl_num l) (by rw [zl_len]; omega) v (by omega) (by
      by_cases c : v < (us l).length
      · left; rw [zl_ids]; exact List.mem_range.2 c
      · right; omega) (by omega)
    rw [← hH] at this
    exact ⟨this.1, by have := this.2; omega⟩
  obtain ⟨D, hD⟩ : ∃ D : Nat → Nat, D = fun v => ((dn H (2 * n - 2) (2 * n - 2)).getD v 0).toNat := ⟨_, rfl⟩
  have hDe : ∀ v, ((D v : Nat) : Int) = (dn H (2 * n - 2) (2 * n - 2)).getD v 0 := fun v => by
    have := (dn_bound H (2 * n - 2) (2 * n - 2) v).1
    rw [hD]
    simp only
    omega
  have key := hids_deep ((us l).length - 1) (zl l) (us l).length (fun _ => 0) (fun _ => 0) D (zl_num l) (by rw [zl_len]; omega) (by rw [zl_row, syms_leafs]; exact us_nodup l) (2 * n - 2) ⟨fun e => by omega, fun _ => by omega⟩
    (by have := hDe (2 * n - 2); rw [dn_root H _ _ (Nat.le_refl _)] at this; omega)
    (fun v _ hv hne => by
      rw [← hH]
      have h1 := hup v (by omega)
      have h3 := dn_step H (2 * n - 2) v (by omega) h1.1
      rw [← hDe, ← hDe] at h3
      omega)
  rw [zl_row] at key
  rw [← hH, ← hn]
  apply List.ext_getElem
  · rw [List.length_take, dn_len, List.length_map]; omega
  · intro i h1 h3
    rw [List.length_map] at h3
    rw [List.getElem_take, List.getElem_map]
    have hz : (zl l)[i]'(by rw [zl_len]; exact h3) = ((fq l (us l)[i], [(us l)[i]]), i) := by
      simp [zl, leafs]
    have hk := key _ (List.getElem_mem (l := zl l) (n := i) (by rw [zl_len]; exact h3)) (us l)[i] (by rw [hz]; simp)
    rw [hz] at hk
    have hdi := hDe i
    have e : (dn H (2 * n - 2) (2 * n - 2)).getD i 0 = (dn H (2 * n - 2) (2 * n - 2))[i]'(by rw [dn_len]; omega) := by
      rw [List.getD_eq_getElem?_getD, List.getElem?_eq_getElem (by rw [dn_len]; omega)]; rfl
    rw [← e, ← hdi]
    unfold dp
    rw [if_neg (by omega), hk]
    simp

set_option maxHeartbeats 1000000 in
theorem depths_any (v : Value) (l : List Int) (w : World) (h : SI w v l) :
    Calls Try.prog 7 #[v] w fun e w' => ∃ a c, e = .returned (.tuple #[.slice a (dptL l).length c, .int .i64 (dptE l)]) ∧ OI w' w.heap.size (.slice a (dptL l).length c) (dptL l) ∧ Below w.heap.size w w' := by
  have HS := hide h
  obtain ⟨ao, cap, rfl, hlc, hcm⟩ := h.open
  clear h
  by_cases h1 : 288 < l.length
  · have h1' : (288 : Int) < (l.length : Int) := by omega
    have HE : Hid (dptE l = 1) := if_pos h1
    have HV : Hid (dptL l = []) := if_neg (by rw [HE.out]; decide)
    rw [HE.out, HV.out]
    go_enter Try.func7, Try.ntmps7
    go_wp2
    go_ret2
    exact ⟨none, 0, rfl, World.ownsRow_nil _ _ _ _, Below.refl _ _⟩
  have h1' : ¬ (288 : Int) < (l.length : Int) := by omega
  cases hw : bnb l 4294967296 with
  | false =>
    have HE : Hid (dptE l = 61) := by show dptE l = 61; unfold dptE; rw [if_neg h1, if_pos hw]
    have HV : Hid (dptL l = []) := if_neg (by rw [HE.out]; decide)
    rw [HE.out, HV.out]
    have HW := hide hw
    clear hw
    go_enter Try.func7, Try.ntmps7
    go_wp2_with fail
    refine (weighable_any _ l _ HS.out).mono ?_
    rintro e w1 ⟨rfl, rfl⟩
    rw [HW.out]
    go_wp2
    go_ret2
    exact ⟨none, 0, rfl, World.ownsRow_nil _ _ _ _, Below.refl _ _⟩
  | true =>
    have HE : Hid (dptE l = 0) := by show dptE l = 0; unfold dptE; rw [if_neg h1, if_neg (by rw [hw]; decide)]
    have HV : Hid (dptL l = dpt l) := if_pos HE.out
    rw [HE.out, HV.out, dpt_len]
    have HW := hide hw
    have hbn := bnb_iff.1 hw
    have HSU := hide (zl_sum hbn (by omega))
    have HMU : Hid (∀ s ∈ us l, s < l.length) := fun s hs => (mem_us.1 hs).1
    have hul := us_le (l := l)
    have HWT := hide (zl_weights l)
    have HSP := hide (dpt_spr l)
    clear hw hbn
    by_cases h2 : (us l).length < 2
    · have h2' : ((us l).length : Int) < 2 := by omega
      have HFW := hide (dpt_few h2)
      go_enter Try.func7, Try.ntmps7
      go_wp2_with fail
      refine (weighable_any _ l _ HS.out).mono ?_
      rintro e w1 ⟨rfl, rfl⟩
      rw [HW.out]
      go_wp2_with fail
      refine (used_any _ l _ HS.out (by omega)).mono ?_
      rintro e w2 ⟨a2, c2, rfl, ho2, hb2⟩
      have HO2 := hide ho2
      have HB2 := hide hb2
      clear ho2 hb2
      go_wp2_with fail
      refine (few_any l.length _ (us l) _ HO2.out.sb HMU.out (by omega) (by omega)).mono ?_
      rintro e w3 ⟨a3, c3, rfl, ho3, hb3⟩
      have HF : Hid (OI w3 w1.heap.size (.slice a3 l.length c3) (dpt l) ∧ Below w1.heap.size w1 w3) := ⟨by rw [← HFW.out]; exact ho3.base HB2.out.size, HB2.out.trans (hb3.mono HB2.out.size)⟩
      clear ho3 hb3
      go_wp2
      go_ret2
      exact ⟨_, _, rfl, HF.out.1, HF.out.2⟩
    · have h2' : ¬ ((us l).length : Int) < 2 := by omega
      have HJE := hide (join_eq (l := l) (by omega))
      have HZL := hide (zl_len l)
      have HZI := hide (zl_ids l)
      go_enter Try.func7, Try.ntmps7
      go_wp2_with fail
      refine (weighable_any _ l _ HS.out).mono ?_
      rintro e w1 ⟨rfl, rfl⟩
      rw [HW.out]
      go_wp2_with fail
      refine (used_any _ l _ HS.out (by omega)).mono ?_
      rintro e w2 ⟨a2, c2, rfl, ho2, hb2⟩
      have HO2 := hide ho2
      have HB2 := hide hb2
      have HS2 := hide (HS.out.below hb2)
      clear ho2 hb2
      go_wp2_with fail
      refine (pick_any _ _ l (us l) _ HS2.out HO2.out.sb HMU.out (by omega)).mono ?_
      rintro e w3 ⟨a3, c3, rfl, ho3, hb3⟩
      have HO3 := hide ho3
      have HB3 := hide (HB2.out.trans (hb3.mono HB2.out.size))
      have HO23 := hide (HO2.out.below hb3 (Nat.le_refl _))
      have HJ := hide (join_any _ _ (zl l) w3 ho3.sb HWT.out (by rw [zl_ids, zl_len]) (by rw [zl_len]; omega) (by rw [zl_len]; omega) HSU.out)
      rw [HZL.out, HJE.out] at HJ
      clear ho3 hb3
      go_wp2_with fail
      refine HJ.out.mono ?_
      rintro e w4 ⟨a4, c4, rfl, hs4, hb4⟩
      have HS4 := hide hs4
      have HB4 := hide (HB3.out.trans (hb4.mono HB3.out.size))
      have HO24 := hide (HO23.out.below hb4 (Nat.le_refl _))
      clear hs4 hb4
      go_wp2_with fail
      refine (spread_any l.length _ _ (us l) (fun s => (dp l s : Int)) _ HO24.out.sb HS4.out HMU.out (by omega) (by omega)).mono ?_
      rintro e w5 ⟨a5, c5, rfl, ho5, hb5⟩
      have HF : Hid (OI w5 w1.heap.size (.slice a5 l.length c5) (dpt l) ∧ Below w1.heap.size w1 w5) := ⟨by rw [← HSP.out]; exact ho5.base HB4.out.size, HB4.out.trans (hb5.mono HB4.out.size)⟩
      clear ho5 hb5
      go_wp2
      go_ret2
      exact ⟨_, _, rfl, HF.out.1, HF.out.2⟩
end Go.Proofs.Ytdfggdafflkkcaa

