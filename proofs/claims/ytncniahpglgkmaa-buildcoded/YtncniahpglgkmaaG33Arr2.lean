import Derived.Test.YtncniahpglgkmaaG18Gud
import Derived.Test.YtncniahpglgkmaaG32Lmw
import Derived.Test.YtncniahpglgkmaaG12Arr
import Derived.Laws.StructEq
namespace Go.Proofs.Ytncniahpglgkmaa
open Go.RowKit Go.Maps
set_option maxRecDepth 20000
set_option linter.unusedVariables false

theorem pow_split {L a : Nat} (hL : L ≤ 60) (h : a ≤ L) : 2 ^ (60 - a) = 2 ^ (60 - L) * 2 ^ (L - a) := by
  rw [← Nat.pow_add]
  congr 1
  omega

theorem kr_limit {len : Nat → Nat} {l : List Nat} {L : Nat} (hL : L ≤ 60) (h : ∀ s ∈ l, len s ≤ L) : kr len l = 2 ^ (60 - L) * (l.map fun s => 2 ^ (L - len s)).sum := by
  induction l with
  | nil => simp [kr]
  | cons a r ih =>
    have ih' := ih fun s hs => h s (List.mem_cons_of_mem _ hs)
    unfold kr at ih' ⊢
    simp only [List.map_cons, List.sum_cons]
    rw [ih', pow_split hL (h a (by simp)), Nat.mul_add]

theorem kr_perm {len : Nat → Nat} {l l' : List Nat} (h : l.Perm l') : kr len l = kr len l' := perm_sum _ h
theorem fl_perm {f len : Nat → Nat} {l l' : List Nat} (h : l.Perm l') : fl f len l = fl f len l' := perm_sum _ h

theorem lm_facts {f : List Int} {L : Nat} (hs : Sound f) (hL : 1 ≤ L ∧ L ≤ 15) (hu : (us6 f).length ≤ 2 ^ L) (h2 : 2 ≤ (us6 f).length) : kr (lm f L) (us6 f) = 2 ^ 60 ∧ (∀ s ∈ us6 f, lm f L s ≤ L) ∧ ∀ o, (∀ s ∈ us6 f, o s ≤ L) → kr o (us6 f) ≤ 2 ^ 60 → fl (fq f) (lm f L) (us6 f) ≤ fl (fq f) o (us6 f) := by
  have hp := (srl_srt f).perm
  have key := limited_good (f := fq f) (len := lm f L) (us6 := srl f) L hL.1 (by rw [srl_len]; omega) (lws_rise hs.nn) (by rw [srl_len]; exact hu) (fun i hi => by
    have := lm_at (l := f) (L := L) h2 hi
    rw [List.getD_eq_getElem?_getD, List.getElem?_eq_getElem hi, Option.getD_some, this]
    rw [srl_len, show 2 * ((us6 f).length - 1) = 2 * (us6 f).length - 2 by omega]
    rfl)
  obtain ⟨a, b, c⟩ := key
  have hle : ∀ s ∈ us6 f, lm f L s ≤ L := fun s h => b s (srl_mem.2 h)
  have hsum : ∀ g : Nat → Nat, ((srl f).map g).sum = ((us6 f).map g).sum := fun g => perm_sum g hp
  have e60 : 2 ^ (60 - L) * 2 ^ L = 2 ^ 60 := by rw [← Nat.pow_add]; congr 1; omega
  refine ⟨?_, hle, fun o ho hk => ?_⟩
  · rw [kr_limit (by omega) hle, ← hsum, a]
    exact e60
  · rw [← fl_perm hp, ← fl_perm hp]
    refine c o (fun s h => ho s (srl_mem.1 h)) ?_
    rw [kr_limit (by omega) ho, ← e60] at hk
    rw [hsum]
    exact Nat.le_of_mul_le_mul_left hk (Nat.two_pow_pos _)

theorem lmt_get {f : List Int} {L s : Nat} (h : s < f.length) : (lmt f L).getD s 0 = (lm f L s : Int) := by
  unfold lmt
  rw [List.getD_eq_getElem?_getD, List.getElem?_map, List.getElem?_range h]
  rfl

theorem nn_lmt {f : List Int} {L s : Nat} (h : s ∈ us6 f) : nn (lmt f L) s = lm f L s := by
  unfold nn
  rw [lmt_get (mem_us.1 h).1]
  rfl

theorem lm_one {f : List Int} {L s : Nat} (h : (us6 f).length = 1) (hm : s ∈ us6 f) : lm f L s = 1 := by
  unfold lm
  rw [if_pos h, if_pos hm]

theorem gd_lmt {f : List Int} {L : Nat} (hs : Sound f) (hL : 1 ≤ L ∧ L ≤ 15) (hu : (us6 f).length ≤ 2 ^ L) : Gd f (lmt f L) L := by
  refine ⟨lmt_len f L, fun s h h0 => ?_, fun s hm => ?_, fun h s hm => by rw [lmt_get (mem_us.1 hm).1, lm_one h hm]; rfl, fun h2 => ?_⟩
  · rw [lmt_get h, lm_out (fun hm => by have := (mem_us.1 hm).2; omega)]; rfl
  · have hm' : s ∈ us6 f := hm
    have hpos := List.length_pos_of_mem hm'
    rw [lmt_get (mem_us.1 hm').1]
    by_cases h1 : (us6 f).length = 1
    · rw [lm_one h1 hm']; omega
    · obtain ⟨a, b, _⟩ := lm_facts hs hL hu (by omega)
      have h3 := kr_one a (by omega) hm'
      have h4 := b s hm'
      omega
  · rw [kr_congr (fun s h => nn_lmt h)]
    exact (lm_facts hs hL hu h2).1

/-- Nothing within Kraft's rule and the limit costs less. -/
theorem lm_best {f o : List Int} {L : Nat} (hs : Sound f) (hL : 1 ≤ L ∧ L ≤ 15) (hu : (us6 f).length ≤ 2 ^ L) (ho : LenOk f o L f.length) (hk : kr (nn o) (us6 f) ≤ 2 ^ 60) : fl (fq f) (nn (lmt f L)) (us6 f) ≤ fl (fq f) (nn o) (us6 f) := by
  rw [fl_congr (fun s h => nn_lmt h)]
  by_cases h2 : 2 ≤ (us6 f).length
  · exact (lm_facts hs hL hu h2).2.2 (nn o) (fun s h => by have := ho s h; unfold nn; omega) hk
  · refine sum_map_le fun s h => ?_
    have hpos := List.length_pos_of_mem h
    have e : lm f L s = 1 := lm_one (by omega) h
    have := ho s h
    show fq f s * lm f L s ≤ _
    rw [e]
    exact Nat.mul_le_mul_left _ (by unfold nn; omega)

theorem Sound.lmE {f : List Int} {L : Nat} (hs : Sound f) (hL : 1 ≤ L ∧ L ≤ 15) : lmE f L = (if 2 ^ L < (us6 f).length then 60 else 0) ∧ lmL f L = (if 2 ^ L < (us6 f).length then [] else lmt f L) := by
  have e : Go.Proofs.Ytncniahpglgkmaa.lmE f L = (if 2 ^ L < (us6 f).length then 60 else 0) := by
    unfold Go.Proofs.Ytncniahpglgkmaa.lmE
    rw [if_neg (by have := hs.len; omega), if_neg (by rw [bnb_iff.2 hs.ok]; decide), Int.toNat_natCast]
  refine ⟨e, ?_⟩
  unfold Go.Proofs.Ytncniahpglgkmaa.lmL
  rw [e]
  by_cases c : 2 ^ L < (us6 f).length
  · rw [if_pos c, if_pos c]; rfl
  · rw [if_neg c, if_neg c, Int.toNat_natCast]; rfl

theorem OI.blk {w : World} {base a n c} {l : List Int} (h : OI w base (.slice a n c) l) : ∀ k, (Value.slice a n c).ownBlock = some k → k < w.heap.size := fun k hk => (h.lt k hk).2

theorem limited_ok {f : List Int} {L : Nat} (hs : Sound f) (hL : 1 ≤ L ∧ L ≤ 15) (hu : (us6 f).length ≤ 2 ^ L) (v : Value) (w : World) (h : SI w v f) (hne : ∀ k, v.ownBlock = some k → k < w.heap.size) :
    Calls Try.prog 6 #[v, .int .i64 (L : Int)] w fun e w' => ∃ a c, e = .returned (.tuple #[.slice a f.length c, .int .i64 0]) ∧ OI w' w.heap.size (.slice a f.length c) (lmt f L) ∧ Below w.heap.size w w' := by
  have := limited_any v f L w h hne (by omega)
  obtain ⟨e1, e2⟩ := hs.lmE hL
  rw [if_neg (by omega)] at e1 e2
  rw [e1, e2, lmt_len] at this
  exact this
end Go.Proofs.Ytncniahpglgkmaa

namespace Go.Proofs.Ytncniahpglgkmaa
open Go.RowKit Go.Maps
set_option maxRecDepth 20000

theorem run_part (f : Nat → Int) {k : Nat} (h : k < 16) (w : World) : (part 3 (av f) k).run Try.prog w = .ok (.int .i64 (f k)) w := by
  simp [part, isAgg, run_underlying Try.underlying3, av_get f h]

theorem run_index (f : Nat → Int) {k : Nat} (h : k < 16) (w : World) : (Instr.index 86 (.agg (av f)) (.int .i64 k)).run Try.prog w = .ok (.int .i64 (f k)) w := by
  obtain ⟨i0, hi, hz0, hz1, hz2⟩ := info_parts infoInt
  simp [Instr.index, asIntOf, run_underlying Try.underlying86, sizeOf, typeInfo, hi, hz1, run_part f h]
  omega

def eq16 (f g : Nat → Int) : Bool := (List.range' 0 16).all fun i => f i == g i

theorem eq16_iff (f g : Nat → Int) : eq16 f g = true ↔ ∀ i, i < 16 → f i = g i := by
  unfold eq16
  rw [List.all_eq_true]
  constructor
  · intro h i hi
    have := h i (by simp [List.mem_range']; omega)
    simpa using this
  · intro h i hi
    simp [List.mem_range'] at hi
    have := h i (by omega)
    simpa using this

theorem forIn_eq {P : Program} (f g : Nat → Int) (body : Nat → Option Bool × Unit → Sem (ForInStep (Option Bool × Unit))) (hb : ∀ i w, i < 16 → (body i (none, ())).run P w = .ok (if f i = g i then .yield (none, ()) else .done (some false, ())) w) :
    ∀ n k w, k + n ≤ 16 → (forIn (List.range' k n) (none, ()) body).run P w = .ok (if ((List.range' k n).all fun i => f i == g i) then (none, ()) else (some false, ())) w := by
  intro n
  induction n with
  | zero => intro k w _; simp
  | succ n ih =>
    intro k w h
    simp only [List.range'_succ, List.forIn_cons, Sem.run_bind, hb k w (by omega)]
    by_cases e : f k = g k
    · have e2 : (f k == g k) = true := by simp [e]
      simp only [List.all_cons, e2, Bool.true_and]
      simp [e, ih (k + 1) w (by omega)]
    · have e2 : (f k == g k) = false := by simp [e]
      simp only [List.all_cons, e2, Bool.false_and]
      simp [e]

theorem run_equal_per (d : Nat) (f g : Nat → Int) (w : World) (H : ∀ a b w, (Op.equalIn d 3 (.int .i64 a) (.int .i64 b)).run Try.prog w = .ok (a == b) w) : (Op.equalIn (d+1) 86 (.agg (av f)) (.agg (av g))).run Try.prog w = .ok (eq16 f g) w := by
  obtain ⟨i0, hi, hz0, hz1, hz2⟩ := info_parts infoInt
  simp only [Op.equalIn, Sem.run_bind, run_underlying Try.underlying86, Result.andThen_ok]
  simp [sizeOf, typeInfo, hi, hz1]
  rw [forIn_eq f g _ _ 16 0 w (by omega)]
  · by_cases e : eq16 f g = true
    · have e2 := e
      unfold eq16 at e2
      simp [e2, e]
    · have e3 : eq16 f g = false := by simpa using e
      have e2 := e3
      unfold eq16 at e2
      simp [e2, e3]
  · intro i w hi
    simp [run_part f hi, run_part g hi, H]
    by_cases e : f i = g i
    · simp [e]
    · simp [e]

theorem run_eql_per (f g : Nat → Int) (w : World) : (binOp .eql 86 (.agg (av f)) (.agg (av g))).run Try.prog w = .ok (.bool (eq16 f g)) w := by
  rw [run_eql_struct, run_equal_per 9999 f g w (fun a b w => run_equalIn_int w 9998 3 .i64 .i64 a b Try.underlying3)]
  rfl

theorem rows_shr {k : Nat} (h : k ≤ 15) : (32768 : Int) / 2 ^ k = ((2 ^ (15 - k) : Nat) : Int) := by
  have e : (32768 : Int) = ((2 ^ (15 - k) : Nat) : Int) * 2 ^ k := by
    have : (2 : Nat) ^ (15 - k) * 2 ^ k = 2 ^ 15 := by rw [← Nat.pow_add]; congr 1; omega
    have h2 : ((2 ^ (15 - k) * 2 ^ k : Nat) : Int) = 32768 := by rw [this]; rfl
    rw [← h2]; push_cast; rfl
  conv => lhs; rw [e]
  exact Int.mul_ediv_cancel _ (by have := pow_pos k; omega)

theorem used_any (l : List Int) (w : World) (hl : Lens l) :
    Calls Try.prog 56 #[.agg (av fun n => (cn l n : Int))] w fun e w' => e = .returned (.int .i64 (us l 16)) ∧ Below w.heap.size w w' := by
  have HL := hide hl
  clear hl
  obtain ⟨A, HA⟩ : ∃ A, Hid (A = av fun n => (cn l n : Int)) := ⟨_, rfl⟩
  rw [← HA.out]
  have HG : Hid ((w.alloc (.cells A 86)).heap[w.heap.size]? = some (.cells (av fun n => (cn l n : Int)) 86 (0, 0))) := by rw [← HA.out]; exact heap_alloc_new w _
  have HB : Hid (Below w.heap.size w (w.alloc (.cells A 86))) := (Below.refl _ _).alloc (Nat.le_refl _) _
  obtain ⟨W, HW⟩ : ∃ W, Hid (W = w.alloc (.cells A 86)) := ⟨_, rfl⟩
  rw [← HW.out] at HG HB
  go_enter Try.func56, Try.ntmps56
  go_wp2_with (first | ((with_reducible refine wpList_loadP w.heap.size _ ?hx (show (w.alloc (.cells A 86)).heap[w.heap.size]? = some (.cells (av fun n => (cn l n : Int)) 86 (0, 0)) from by rw [← HW.out]; exact HG.out) ?_); case hx => rfl))
  rw [← HW.out]
  go_loopw [3, 7] (fun u i wr => ∃ k : Nat, k ≤ 16 ∧ i = .int .i64 k ∧ u = .int .i64 (us l k) ∧ wr = W) (fun _ i _ => 16 - (intOf i).toNat)
  case atStart => exact ⟨0, Nat.zero_le _, rfl, rfl, rfl⟩
  case round =>
    obtain ⟨k, hk, rfl, rfl, rfl⟩ := hrel
    by_cases hlt : k < 16
    · have hlt' : (k : Int) < 16 := by omega
      have hg := fun W => run_index (fun n => (cn l n : Int)) hlt W
      have b2 : cn l k ≤ 288 := by have := cn_le l k; have := HL.out.1; omega
      have b3 : us l k ≤ 288 * 16384 := Nat.le_trans (us_mono l (by omega)) (us_bound HL.out)
      have b4 : 2 ^ (15 - k) ≤ 32768 := Nat.pow_le_pow_right (n := 2) (by decide) (show 15 - k ≤ 15 by omega)
      have hs := rows_shr (k := k) (by omega)
      have HS : Hid (us l (k + 1) = us l k + cn l k * 2 ^ (15 - k)) := rfl
      obtain ⟨c, HC⟩ : ∃ c : Nat, Hid (c = cn l k) := ⟨_, rfl⟩
      obtain ⟨p, HP⟩ : ∃ p : Nat, Hid (p = 2 ^ (15 - k)) := ⟨_, rfl⟩
      obtain ⟨u, HU⟩ : ∃ u : Nat, Hid (u = us l k) := ⟨_, rfl⟩
      rw [← HC.out] at b2 hg HS
      rw [← HP.out] at b4 hs HS
      rw [← HU.out] at b3 HS ⊢
      have hcp : c * p ≤ 288 * 32768 := Nat.mul_le_mul b2 b4
      have hcp' : (c : Int) * p = ((c * p : Nat) : Int) := by push_cast; rfl
      obtain ⟨m, HM⟩ : ∃ m : Nat, Hid (m = c * p) := ⟨_, rfl⟩
      rw [← HM.out] at hcp hcp' HS
      go_wp2
      go_roundw
      case rel => exact ⟨k + 1, by omega, by go_num, by rw [HS.out]; push_cast; rfl, by trivial⟩
      case measure => simp [intOf]; omega
    · obtain rfl : k = 16 := by omega
      have hlt' : ¬ ((16 : Nat) : Int) < 16 := by omega
      go_wp2
      go_ret
      exact ⟨rfl, HB.out⟩

theorem shape_any (l : List Int) (w : World) (hl : Lens l) :
    Calls Try.prog 39 #[.agg (av fun n => (cn l n : Int))] w fun e w' => e = .returned (.int .i64 (shp l)) ∧ Below w.heap.size w w' := by
  have HL := hide hl
  have HU := hide (us_sum hl.2)
  have hz : eq16 (fun n => (cn l n : Int)) (fun _ => 0) = decide (tsum l = 0) := by
    rw [Bool.eq_iff_iff, eq16_iff, decide_eq_true_iff, tsum_zero hl]
    exact ⟨fun h n hn => by have := h n hn; omega, fun h n hn => by rw [h n hn]; rfl⟩
  have ho : eq16 (fun n => (cn l n : Int)) (fun n => if n = 1 then 1 else 0) = decide (tsum l = 1 ∧ usum l = 16384) := by
    rw [Bool.eq_iff_iff, eq16_iff, decide_eq_true_iff, single_iff hl]
    exact ⟨fun h n hn => by have := h n hn; by_cases e : n = 1 <;> simp [e] at this ⊢ <;> omega, fun h n hn => by rw [h n hn]; by_cases e : n = 1 <;> simp [e]⟩
  have hb := us_bound hl
  rw [HU.out] at hb
  clear hl
  have q1 := fun W => run_eql_per (fun n => (cn l n : Int)) (fun _ => 0) W
  have q2 := fun W => run_eql_per (fun n => (cn l n : Int)) (fun n => if n = 1 then 1 else 0) W
  rw [av_zero, hz] at q1
  have e1 : av (fun n => if n = 1 then 1 else 0) = #[.int .i64 0, .int .i64 1, .int .i64 0, .int .i64 0, .int .i64 0, .int .i64 0, .int .i64 0, .int .i64 0, .int .i64 0, .int .i64 0, .int .i64 0, .int .i64 0, .int .i64 0, .int .i64 0, .int .i64 0, .int .i64 0] := rfl
  rw [e1, ho] at q2
  clear hz ho e1
  have HG : Hid ((w.alloc (.cells (av fun n => (cn l n : Int)) 86)).heap[w.heap.size]? = some (.cells (av fun n => (cn l n : Int)) 86 (0, 0))) := heap_alloc_new w _
  have HB : Hid (Below w.heap.size w (w.alloc (.cells (av fun n => (cn l n : Int)) 86))) := (Below.refl _ _).alloc (Nat.le_refl _) _
  obtain ⟨U, HUU⟩ : ∃ U : Nat, Hid (U = usum l) := ⟨_, rfl⟩
  have HSH : Hid (shp l = if tsum l = 0 then 0 else if tsum l = 1 ∧ usum l = 16384 then 1 else if 32768 < usum l then 3 else if usum l = 32768 then 4 else 2) := rfl
  rw [← HUU.out] at hb HSH q2
  go_enter Try.func39, Try.ntmps39
  go_wp2_with ((with_reducible refine wpList_loadP w.heap.size _ ?hx HG.out ?_); (case hx => rfl))
  refine (used_any l _ HL.out).mono ?_
  rintro e w2 ⟨rfl, hb2⟩
  rw [HU.out, ← HUU.out]
  have HG2 : Hid (w2.heap[w.heap.size]? = some (.cells (av fun n => (cn l n : Int)) 86 (0, 0))) := (hb2.block _ (by simp)).trans HG.out
  have HB2 : Hid (Below w.heap.size w w2) := HB.out.trans (hb2.mono (by simp))
  clear hb2 HG HB
  by_cases c1 : tsum l = 0
  · have d1 : decide (tsum l = 0) = true := decide_eq_true c1
    rw [d1] at q1
    have HX : Hid (shp l = 0) := by show _ = _; rw [HSH.out, if_pos c1]
    clear c1 d1 HSH q2
    go_wp2_with ((with_reducible refine wpList_loadP w.heap.size _ ?hx HG2.out ?_); (case hx => rfl))
    go_ret
    rw [HX.out]
    exact ⟨rfl, HB2.out⟩
  have d1 : decide (tsum l = 0) = false := decide_eq_false c1
  rw [d1] at q1
  by_cases c2 : tsum l = 1 ∧ U = 16384
  · have d2 : decide (tsum l = 1 ∧ U = 16384) = true := decide_eq_true c2
    rw [d2] at q2
    have HX : Hid (shp l = 1) := by show _ = _; rw [HSH.out, if_neg c1, if_pos c2]
    clear c1 d1 c2 d2 HSH
    go_wp2_with ((with_reducible refine wpList_loadP w.heap.size _ ?hx HG2.out ?_); (case hx => rfl))
    go_ret
    rw [HX.out]
    exact ⟨rfl, HB2.out⟩
  have d2 : decide (tsum l = 1 ∧ U = 16384) = false := decide_eq_false c2
  rw [d2] at q2
  have HX : Hid (shp l = if 32768 < U then 3 else if U = 32768 then 4 else 2) := by show _ = _; rw [HSH.out, if_neg c1, if_neg c2]
  clear c1 d1 c2 d2 HSH
  by_cases c3 : 32768 < U
  · have HY : Hid (shp l = 3) := by show _ = _; rw [HX.out, if_pos c3]
    clear HX
    go_wp2_with ((with_reducible refine wpList_loadP w.heap.size _ ?hx HG2.out ?_); (case hx => rfl))
    go_ret
    rw [HY.out]
    exact ⟨rfl, HB2.out⟩
  by_cases c4 : U = 32768
  · have HY : Hid (shp l = 4) := by show _ = _; rw [HX.out, if_neg c3, if_pos c4]
    clear HX HUU
    subst c4
    go_wp2_with ((with_reducible refine wpList_loadP w.heap.size _ ?hx HG2.out ?_); (case hx => rfl))
    go_ret
    rw [HY.out]
    exact ⟨rfl, HB2.out⟩
  · have HY : Hid (shp l = 2) := by show _ = _; rw [HX.out, if_neg c3, if_neg c4]
    clear HX
    go_wp2_with ((with_reducible refine wpList_loadP w.heap.size _ ?hx HG2.out ?_); (case hx => rfl))
    go_ret
    rw [HY.out]
    exact ⟨rfl, HB2.out⟩
end Go.Proofs.Ytncniahpglgkmaa

