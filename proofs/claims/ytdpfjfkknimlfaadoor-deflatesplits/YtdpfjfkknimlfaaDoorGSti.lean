import Derived.Test.YtdpfjfkknimlfaaDoorGSth
namespace Go.Proofs.YtdpfjfkknimlfaaDoor
open Go.RowKit Go.Maps
set_option maxRecDepth 20000
set_option linter.unusedVariables false
set_option linter.unusedSimpArgs false

/-- What is known of tokens A, where n are counted. -/
noncomputable def sg (n : Int) (A : List Tk) : Nat → Int := fun i => if i = 0 then n else if i = 1 then sayS A else kn A (i - 2)

theorem sf_sg (R : List Tk) : sf R = sg R.length R := rfl

theorem kn_one (t : Tk) (k : Nat) : kn [t] k = if kls t = k then 1 else 0 := by
  unfold kn
  by_cases h : kls t = k
  · rw [if_pos h]; simp [h]
  · rw [if_neg h]; simp [h]

theorem sg_step (n : Int) (A : List Tk) (t : Tk) : a10 (sg n (A ++ [t])) = a10 (upf (upf (sg n A) 1 (sayS A + say t)) (2 + kls t) (kn A (kls t) + 1)) := by
  refine a10_congr fun i hi => ?_
  unfold upf sg
  by_cases h0 : i = 0
  · subst h0
    rw [if_pos rfl, if_neg (by omega), if_neg (by omega), if_pos rfl]
  · by_cases h1 : i = 1
    · subst h1
      rw [if_neg (by omega), if_pos rfl, if_neg (by omega), if_pos rfl, sayS_app]
      simp [sayS]
    · rw [if_neg h0, if_neg h1, kn_app, kn_one]
      by_cases h2 : i = 2 + kls t
      · rw [if_pos h2, if_pos (by omega), show i - 2 = kls t by omega]
      · rw [if_neg h2, if_neg (by omega), if_neg h1, if_neg h0, if_neg h1]
        omega

theorem upf_kn (n : Int) (A : List Tk) (x : Int) (q : Nat) : upf (sg n A) 1 x (2 + q) = kn A q := by
  unfold upf sg
  rw [if_neg (by omega), if_neg (by omega), if_neg (by omega), show 2 + q - 2 = q by omega]

/-- The answer's box, not yet written, and a stretch's box. -/
structure Sbx (w : World) (f : Nat → Int) (wr : World) : Prop where
  box : wr.heap[w.heap.size + 1]? = some (.cells (a10 f) 40 (0, 0))
  res : wr.heap[w.heap.size]? = some (.cells (a10 fun _ => 0) 40 (0, 0))
  bel : Below w.heap.size w wr

theorem Sbx.low {w wr w' : World} {f : Nat → Int} (h : Sbx w f wr) (hb : Below wr.heap.size wr w') : Sbx w f w' :=
  ⟨(hb.block _ (lt_of_block h.box)).trans h.box, (hb.block _ (lt_of_block h.res)).trans h.res, h.bel.trans (hb.mono h.bel.size)⟩

theorem Sbx.set {w wr : World} {f : Nat → Int} (h : Sbx w f wr) {n : Nat} (hn : n < 10) (x : Int) : Sbx w (upf f n x) (wr.setCell ⟨w.heap.size + 1, n, none⟩ (.int .i64 x)) := by
  refine ⟨?_, (setCell_others wr _ n _ _ (by omega)).trans h.res, h.bel.setCell (by show _ ≤ w.heap.size + 1; omega) _⟩
  rw [heap_setCell_same _ _ _ _ _ _ h.box, a10_set f x hn]

theorem Sbx.at {w wr : World} {f : Nat → Int} (h : Sbx w f wr) {n : Nat} (hn : n < 10) : wr.cell? ⟨w.heap.size + 1, n, none⟩ = some (.int .i64 (f n)) ∧ wr.frozen? ⟨w.heap.size + 1, n, none⟩ = false := by
  refine ⟨?_, frozen_of_row _ _ _ _ _ h.box⟩
  rw [cell_of_row _ _ _ _ _ _ h.box, a10_get f hn]

theorem Sbx.done {w wr : World} {f : Nat → Int} (h : Sbx w f wr) : (wr.setRow w.heap.size (a10 f)).heap[w.heap.size]? = some (.cells (a10 f) 40 (0, 0)) ∧ Below w.heap.size w (wr.setRow w.heap.size (a10 f)) := by
  refine ⟨setRow_heap wr _ _ _ _ _ h.res, ?_⟩
  exact ⟨h.bel.os, h.bel.tape, h.bel.output, by rw [size_setRow]; exact h.bel.size, fun k hk => (setRow_other wr _ _ _ (by omega)).trans (h.bel.block k hk)⟩

theorem sbx_start (w : World) (o p : Obj) (f : Nat → Int) (ho : o = .cells (a10 fun _ => 0) 40 (0, 0)) (hp : p = .cells (a10 f) 40 (0, 0)) : Sbx w f ((w.alloc o).alloc p) := by
  subst ho hp
  obtain ⟨h1, h2⟩ := heap_two w (.cells (a10 fun _ => 0) 40 (0, 0)) (.cells (a10 f) 40 (0, 0))
  exact ⟨h1, h2, ((Below.refl _ _).alloc (Nat.le_refl _) _).alloc (by simp) _⟩

theorem say_in {A : List Tk} (h : ∀ t ∈ A, Snd t) (hn : A.length ≤ 16777216) : 0 ≤ sayS A ∧ sayS A ≤ 4328521728 := by
  have := sayS_le A h
  omega

set_option maxHeartbeats 1000000 in
theorem survey_any (v : Value) (R : List Tk) (w : World) (h : SK w v R) (hs : ∀ t ∈ R, Snd t ∧ Bt t) (hn : R.length ≤ 16777216) :
    Calls Tryd.prog 15 #[v] w fun e w' => e = .returned (.agg (a10 (sf R))) ∧ Below w.heap.size w w' := by
  have HS := hide h
  have HSN := hide hs
  obtain ⟨ao, cap, rfl, hlc, hcm⟩ := h.open
  clear h hs
  go_enter Tryd.func15, Tryd.ntmps15
  go_wp2
  go_loopw [11] (fun i wr => ∃ k : Nat, k ≤ R.length ∧ i = .int .i64 k ∧ Hid (Sbx w (sg R.length (R.take k)) wr)) (fun i _ => R.length - (intOf i).toNat)
  case atStart =>
    exact ⟨0, Nat.zero_le _, rfl, sbx_start w _ _ _ rfl rfl⟩
  case round =>
    obtain ⟨k, hk, rfl, HT⟩ := hrel
    by_cases hlt : k < R.length
    · have hlt' : (k : Int) < (R.length : Int) := by omega
      obtain ⟨b, o, rfl, c0, c1, c2⟩ := HS.out.get HT.out.bel hlt
      have hsn : Snd (R.getD k tk0) ∧ Bt (R.getD k tk0) := HSN.out _ (by rw [List.getD_eq_getElem?_getD, List.getElem?_eq_getElem hlt]; exact List.getElem_mem hlt)
      have HST := hide (sg_step R.length (R.take k) (R.getD k tk0))
      rw [← tk_snoc hlt] at HST
      have hsy := say_in (A := R.take k) (fun t ht => (HSN.out t (List.mem_of_mem_take ht)).1) (by rw [List.length_take]; omega)
      obtain ⟨A, HA⟩ : ∃ A, Hid (A = R.take k) := ⟨_, hide rfl⟩
      have hAl : A.length ≤ 16777216 := by rw [HA.out, List.length_take]; omega
      rw [← HA.out] at HST HT hsy
      obtain ⟨⟨t1, t2, t3⟩, ht⟩ : ∃ t, R.getD k tk0 = t := ⟨_, rfl⟩
      rw [ht] at c0 c1 c2 hsn HST
      simp only at c0 c1 c2
      have hsl := say_le hsn.1
      have hmx : (t1 = 0 ∧ say (t1, t2, t3) = 1) ∨ (3 ≤ t1 ∧ t1 ≤ 258 ∧ say (t1, t2, t3) = t1) := by
        have := hsn.1
        unfold Snd at this
        unfold say
        by_cases h0 : t1 = 0
        · exact .inl ⟨h0, if_pos h0⟩
        · rw [if_neg h0] at this ⊢
          exact .inr ⟨this.1, this.2.1, rfl⟩
      have hkl := kls_lt (t1, t2, t3) hsn.2
      have hkn := kn_in A (kls (t1, t2, t3))
      have HCL := hide (fun w' => class_any t1 t2 t3 w' hsn.2)
      obtain ⟨s, hs⟩ : ∃ s, say (t1, t2, t3) = s := ⟨_, rfl⟩
      obtain ⟨q, hq⟩ : ∃ q, kls (t1, t2, t3) = q := ⟨_, rfl⟩
      rw [hs] at hmx hsl HST
      rw [hq] at hkl hkn HST HCL
      obtain ⟨w6, hw6⟩ : ∃ w6, wr.alloc (.cells #[.int .i64 t1, .int .i64 t2, .int .u8 t3] 24) = w6 := ⟨_, rfl⟩
      have HB6 : Hid (Below wr.heap.size wr w6) := by rw [← hw6]; exact (Below.refl _ _).alloc (Nat.le_refl _) _
      have HN6 : Hid (w6.heap[wr.heap.size]? = some (.cells #[.int .i64 t1, .int .i64 t2, .int .u8 t3] 24 (0, 0))) := by rw [← hw6]; exact heap_alloc_new wr _
      have HT6 := hide (HT.out.low HB6.out)
      obtain ⟨x0, x1⟩ := HT6.out.at (n := 1) (by omega)
      have e1 : sg (R.length : Int) A 1 = sayS A := rfl
      rw [e1] at x0
      obtain ⟨y, hy⟩ : ∃ y, sayS A = y := ⟨_, rfl⟩
      rw [hy] at x0 hsy HST
      have HT7 := hide (HT6.out.set (n := 1) (by omega) (y + s))
      obtain ⟨w7, hw7⟩ : ∃ w7, w6.setCell ⟨w.heap.size + 1, 1, none⟩ (.int .i64 (y + s)) = w7 := ⟨_, rfl⟩
      rw [hw7] at HT7
      have hne : wr.heap.size ≠ w.heap.size + 1 := by have := lt_of_block HT.out.box; omega
      have HN7 : Hid (w7.heap[wr.heap.size]? = some (.cells #[.int .i64 t1, .int .i64 t2, .int .u8 t3] 24 (0, 0))) := by rw [← hw7]; exact (setCell_others w6 _ 1 _ _ hne).trans HN6.out
      obtain ⟨p, hp⟩ : ∃ p, wr.heap.size = p := ⟨_, rfl⟩
      rw [hp] at HN6 HN7 hne
      have y0 : w6.cell? ⟨p, 0, none⟩ = some (.int .i64 t1) := by unfold World.cell?; rw [HN6.out]; rfl
      have z0 : w7.cell? ⟨p, 0, none⟩ = some (.int .i64 t1) := by unfold World.cell?; rw [HN7.out]; rfl
      have z1 : w7.cell? ⟨p, 1, none⟩ = some (.int .i64 t2) := by unfold World.cell?; rw [HN7.out]; rfl
      have z2 : w7.cell? ⟨p, 2, none⟩ = some (.int .u8 t3) := by unfold World.cell?; rw [HN7.out]; rfl
      have hyw : wrap64 (y + s) = y + s := by unfold wrap64; omega
      clear hsn hs hq ht hy HT HB6 HN6 HN7 e1
      rcases hmx with ⟨h0, h1⟩ | ⟨h3, h4, h1⟩
      · subst h0 h1
        go_wp2_with fail
        refine (HCL.out w7).mono ?_
        rintro e w8 ⟨rfl, b8⟩
        have HT8 := hide (HT7.out.low b8)
        obtain ⟨u0, u1⟩ := HT8.out.at (n := 2 + q) (by omega)
        rw [upf_kn] at u0
        obtain ⟨z, hz⟩ : ∃ z, kn A q = z := ⟨_, rfl⟩
        rw [hz] at u0 hkn HST
        have HT9 := hide (HT8.out.set (n := 2 + q) (by omega) (z + 1))
        have hq8 : (q : Int) < 8 := by omega
        have hzw : wrap64 (z + 1) = z + 1 := by unfold wrap64; omega
        clear HT6 HT7 HT8 b8 hz y0 z0 z1 z2 x0 x1 HCL
        go_wp2
        go_roundw
        case rel => exact ⟨k + 1, by omega, by go_num, ⟨by rw [HST.out]; exact HT9.out.box, HT9.out.res, HT9.out.bel⟩⟩
        case measure => simp [intOf]; omega
      · subst h1
        have h5 : max s 1 = s := by omega
        have h6 : ¬ s ≤ 1 := by omega
        have h7 : ¬ s < 1 := by omega
        go_wp2_with fail
        refine (HCL.out w7).mono ?_
        rintro e w8 ⟨rfl, b8⟩
        have HT8 := hide (HT7.out.low b8)
        obtain ⟨u0, u1⟩ := HT8.out.at (n := 2 + q) (by omega)
        rw [upf_kn] at u0
        obtain ⟨z, hz⟩ : ∃ z, kn A q = z := ⟨_, rfl⟩
        rw [hz] at u0 hkn HST
        have HT9 := hide (HT8.out.set (n := 2 + q) (by omega) (z + 1))
        have hq8 : (q : Int) < 8 := by omega
        have hzw : wrap64 (z + 1) = z + 1 := by unfold wrap64; omega
        clear HT6 HT7 HT8 b8 hz y0 z0 z1 z2 x0 x1 HCL
        go_wp2
        go_roundw
        case rel => exact ⟨k + 1, by omega, by go_num, ⟨by rw [HST.out]; exact HT9.out.box, HT9.out.res, HT9.out.bel⟩⟩
        case measure => simp [intOf]; omega
    · obtain rfl : k = R.length := by omega
      have hlt' : ¬ (R.length : Int) < (R.length : Int) := by omega
      have HT2 : Hid (Sbx w (sf R) wr) := by have := HT.out; rw [List.take_of_length_le (Nat.le_refl _)] at this; exact this
      clear HT
      have HA := hide HT2.out.box
      have HB := hide HT2.out.res
      have HO := hide HT2.out.done
      clear HT2
      go_wp2_with (first | ((with_reducible refine wpList_ldS (w.heap.size + 1) _ rfl ?hx HA.out ?_); case hx => rfl) | ((with_reducible refine wpList_stS w.heap.size (sf R) _ ?hx ?hy HB.out ?_); (case hx => rfl); (case hy => rfl)))
      (try simp only [Exit.inBlock, Exit.then])
      refine ret_str (p := 2) ?h1 w.heap.size _ ?h2 HO.out.1 ?h3 ?_
      case h1 => rfl
      case h2 => rfl
      case h3 => rfl
      exact ⟨rfl, HO.out.2⟩
end Go.Proofs.YtdpfjfkknimlfaaDoor

