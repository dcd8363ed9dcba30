import Derived.Test.YtegoienjikjhkaaDoorGA27
import Derived.Test.YtegoienjikjhkaaDoorGA06
namespace Go.Proofs.YtegoienjikjhkaaDoor
open Go.RowKit Go.Maps
set_option maxRecDepth 20000
set_option linter.unusedVariables false
set_option linter.unusedSimpArgs false

theorem ex_keep {ys ys' : List ((Nat → Nat) × Thing)} {i j : Nat} {x : (Nat → Nat) × Thing} {t : Thing} (hs : ys' = ys.set j x) (hne : j ≠ i) (h : ∃ K, ys[i]? = some (K, t)) : ∃ K, ys'[i]? = some (K, t) := by
  obtain ⟨K, h⟩ := h
  exact ⟨K, by rw [hs, List.getElem?_set_ne hne]; exact h⟩

theorem ex_put {ys ys' : List ((Nat → Nat) × Thing)} {j : Nat} {K K0 : Nat → Nat} {t t0 : Thing} (hs : ys' = ys.set j (K, t)) (h : ys[j]? = some (K0, t0)) : ∃ K, ys'[j]? = some (K, t) :=
  ⟨K, by rw [hs, List.getElem?_set_self (List.getElem?_eq_some_iff.1 h).1]⟩

theorem fr2_app7 (A B : List Rn) : fr2 (A ++ B) = fr2 A ++ fr2 B := by simp [fr2]

theorem fr2_len7 (A : List Rn) : (fr2 A).length = A.length * 2 := by
  induction A with
  | nil => rfl
  | cons r A ih =>
    have e : fr2 (r :: A) = fr2 [r] ++ fr2 A := fr2_app7 [r] A
    rw [e, List.length_append, ih, List.length_cons]
    have : (fr2 [r]).length = 2 := rfl
    omega

theorem fr2_set7 (A B : List Rn) (s t : Rn) : ((fr2 (A ++ s :: B)).set (A.length * 2) (.int .i64 t.1)).set (A.length * 2 + 1) (.int .i64 t.2) = fr2 (A ++ t :: B) := by
  have e : ∀ r : Rn, fr2 (A ++ r :: B) = fr2 A ++ .int .i64 r.1 :: .int .i64 r.2 :: fr2 B := fun r => by rw [fr2_app7]; rfl
  rw [e, e, ← fr2_len7 A]
  simp [List.set_append_right]

theorem split7 {L : List Rn} {j : Nat} (hj : j < L.length) : ∃ A s B, L = A ++ s :: B ∧ A.length = j ∧ ∀ t, L.set j t = A ++ t :: B := by
  refine ⟨L.take j, L[j], L.drop (j + 1), ?_, by simp; omega, fun t => ?_⟩
  · rw [← List.drop_eq_getElem_cons hj, List.take_append_drop]
  · rw [List.set_eq_take_append_cons_drop, if_pos hj]

theorem OR.set7 {w : World} {base b p j : Nat} {L : List Rn} (t : Rn) (h : OR w base (.slice (some ⟨b, 0, none⟩) L.length p) L) (hj : j < L.length) :
    OR ((w.setCell ⟨b, j * 2, none⟩ (.int .i64 t.1)).setCell ⟨b, j * 2 + 1, none⟩ (.int .i64 t.2)) base (.slice (some ⟨b, 0, none⟩) L.length p) (L.set j t) := by
  obtain ⟨A, s, B, hL, hA, hS⟩ := split7 hj
  rcases h.2 with ⟨hx, _⟩ | ⟨g, cap, cur, he, h1, h2, h3, h4, h5, h6⟩
  · simp at hx
  · simp only [Value.slice.injEq, Option.some.injEq, Addr.mk.injEq] at he
    obtain ⟨⟨rfl, -, -⟩, -, rfl⟩ := he
    have q1 := heap_setCell_same w b (j * 2) _ _ (.int .i64 t.1) h2
    have q2 := heap_setCell_same _ b (j * 2 + 1) _ _ (.int .i64 t.2) q1
    refine ⟨fr2_len7 _, .inr ⟨b, p, _, by simp, h1, q2, by simpa using h3, h4, by simpa using h5, ?_⟩⟩
    rw [List.length_set]
    simp only [Array.toList_setIfInBounds]
    rw [List.take_set, List.take_set, h6, hS]
    subst hA
    rw [hL]
    exact fr2_set7 A B s t

theorem set_midr (m : Rn) (L : List Rn) (k : Nat) (h : k < L.length) : (List.replicate k m ++ L.drop k).set k m = List.replicate (k + 1) m ++ L.drop (k + 1) := by
  rw [List.set_append_right _ _ (by simp)]
  have e : L.drop k = L[k] :: L.drop (k + 1) := List.drop_eq_getElem_cons h
  have e2 : (L.drop k).set 0 m = m :: L.drop (k + 1) := by rw [e]; rfl
  simp [List.replicate_succ', e2]

/-- One run of a list written over. -/
theorem Herd.rmark {W w : World} {xs : List ((Nat → Nat) × Thing)} (H : Herd W w xs) (i : Nat) {K : Nat → Nat} {a : Option Addr} {n c k : Nat} {X : List Rn} (hi : xs[i]? = some (K, trr (.slice a n c) X)) (hk : k < X.length) (t : Rn) :
    ∃ g, a = some ⟨g, 0, none⟩ ∧ (∃ u, w.cell? ⟨g, k * 2, none⟩ = some u) ∧ (∃ u, w.cell? ⟨g, k * 2 + 1, none⟩ = some u) ∧ (∀ i, w.frozen? ⟨g, i, none⟩ = false) ∧ Herd W ((w.setCell ⟨g, k * 2, none⟩ (.int .i64 t.1)).setCell ⟨g, k * 2 + 1, none⟩ (.int .i64 t.2)) (xs.set i (K, trr (.slice a n c) (X.set k t))) := by
  have h := H.rep i _ hi
  have ho : OR w 0 (.slice a n c) X := h.1
  obtain ⟨a', c', he, _, _⟩ := ho.shape
  simp only [Value.slice.injEq] at he
  obtain ⟨-, rfl, -⟩ := he
  rcases ho.2 with ⟨hx, h0⟩ | ⟨g, cap, cur, he, h1, h2, h3, h4, h5, h6⟩
  · omega
  · simp only [Value.slice.injEq] at he
    obtain ⟨rfl, -, rfl⟩ := he
    have hg : K g ≠ 0 := h.2.1 g rfl
    have hcl : X.length * 2 ≤ cur.size := by rw [h5]; exact Nat.mul_le_mul_right 2 h3
    refine ⟨g, rfl, ⟨cur[k * 2]'(by omega), by unfold World.cell?; rw [h2]; simp⟩, ⟨cur[k * 2 + 1]'(by omega), by unfold World.cell?; rw [h2]; simp⟩, fun j => frozen_of_row _ _ _ _ _ h2, ?_⟩
    have hh := H.op i hi (x' := trr (.slice (some ⟨g, 0, none⟩) X.length c) (X.set k t)) (K' := K) (w' := (w.setCell ⟨g, k * 2, none⟩ (.int .i64 t.1)).setCell ⟨g, k * 2 + 1, none⟩ (.int .i64 t.2)) ⟨ho.set7 t hk, h.2.1, fun q hq => by rw [size_setCell, size_setCell]; exact h.2.2 q hq⟩
      ⟨rfl, rfl, rfl, by rw [size_setCell, size_setCell]; exact Nat.le_refl _, fun q _ h0 => by
        rw [setCell_others _ _ _ _ _ (fun e => hg (by rw [← e]; exact h0)), setCell_others _ _ _ _ _ (fun e => hg (by rw [← e]; exact h0))], fun _ _ => rfl⟩
    exact hh
end Go.Proofs.YtegoienjikjhkaaDoor

namespace Go.Proofs.YtegoienjikjhkaaDoor
open Go.RowKit Go.Maps
set_option maxRecDepth 20000
set_option linter.unusedVariables false

theorem lay_more (a : List Int) (k : Nat) (x : Int) : a ++ List.replicate (k + 1) x = (a ++ List.replicate k x) ++ [x] := by
  rw [List.replicate_succ', List.append_assoc]

set_option maxHeartbeats 1000000 in
theorem layr_any (u : Value) (acc : List Int) (s : Int) (c : Nat) (w : World) (B : Nat) (h : OI w B u acc) (hB : B ≤ w.heap.size) (h16 : s = 16 → 0 < acc.length) (hc : c ≤ 138) (hl : acc.length ≤ 1000000000) :
    Calls Tryd.prog 33 #[u, .agg #[.int .i64 s, .int .i64 c]] w fun e w' => ∃ u', e = .returned u' ∧ OI w' B u' (lay acc (s, (c : Int))) ∧ Below B w w' := by
  have HO := hide h
  obtain ⟨a, p, rfl⟩ := h.shape
  have HM := hide (meant_any s (.slice a acc.length p) acc (w.alloc (.cells #[.int .i64 s, .int .i64 c] 39)) (h.alloc _).sb h16)
  obtain ⟨V, HV⟩ : ∃ V, Hid (V = mnt s acc) := ⟨_, rfl⟩
  have HL : Hid (lay acc (s, (c : Int)) = acc ++ List.replicate c V) := by show _ = _; unfold lay; rw [HV.out]; rfl
  rw [← HV.out] at HM
  clear h h16
  go_enter Tryd.func33, Tryd.ntmps33
  go_wp2_with fail
  refine HM.out.mono ?_
  rintro e w1 ⟨rfl, hw1⟩
  subst hw1
  obtain ⟨w1, hw1⟩ : ∃ w1, w.alloc (.cells #[.int .i64 s, .int .i64 c] 39) = w1 := ⟨_, rfl⟩
  have HO1 : Hid (OI w1 B (.slice a acc.length p) acc) := by rw [← hw1]; exact hide (HO.out.alloc _)
  have HB1 : Hid (Below B w w1) := by rw [← hw1]; exact hide ((Below.refl _ _).alloc hB _)
  have cc : w1.cell? ⟨w.heap.size, 1, none⟩ = some (.int .i64 c) := by rw [← hw1]; unfold World.cell?; simp only [heap_alloc_new]; rfl
  rw [hw1]
  clear HM hw1
  go_wp2
  go_loopw [0, 12] (fun x i wr => ∃ k : Nat, k ≤ c ∧ i = .int .i64 k ∧ Hid (OI wr B x (acc ++ List.replicate k V)) ∧ Hid (Below B w wr)) (fun _ i _ => c - (intOf i).toNat)
  case atStart => exact ⟨0, Nat.zero_le _, rfl, by show OI _ _ _ _; simp only [List.replicate_zero, List.append_nil]; exact HO1.out, HB1.out⟩
  case round =>
    obtain ⟨k, hk, rfl, HX, HB⟩ := hrel
    by_cases hlt : k < c
    · have hlt' : (k : Int) < (c : Int) := by omega
      have HD := hide (lay_more acc k V)
      obtain ⟨D, HDD⟩ : ∃ D : List Int, Hid (D = acc ++ List.replicate k V) := ⟨_, hide rfl⟩
      have hDl : D.length ≤ 2000000000 := by rw [HDD.out, List.length_append, List.length_replicate]; omega
      rw [← HDD.out] at HX HD
      have hBw := HB.out.size
      obtain ⟨a2, p2, hu⟩ := HX.out.shape
      subst hu
      have HALC : Hid (OI (wr.alloc (.cells #[.int .i64 V] 3)) B (.slice a2 D.length p2) D) := HX.out.alloc _
      have HSR : Hid (Src Tryd.prog 1 22 (.slice (some ⟨wr.heap.size, 0, none⟩) 1 1) ([V] : List Int).length (([V] : List Int).map (Value.int .i64)) (wr.alloc (.cells #[.int .i64 V] 3))) := built_srcI wr [V]
      go_wp2_with (at_builtin; refine wpList_appI rfl _ _ 22 rfl B _ _ D [V] rfl HALC.out rfl HSR.out (by simp; omega) (by simp; omega) ?_)
      intro v3 w3 ho3 hgr3
      have HN : Hid (OI w3 B v3 (acc ++ List.replicate (k + 1) V) ∧ Below B w w3) := ⟨by rw [HD.out]; exact ho3, grow_one7 HB.out hB HX.out hgr3⟩
      clear ho3 hgr3
      go_wp2
      go_roundw
      case rel => exact ⟨k + 1, by omega, by go_num, HN.out.1, HN.out.2⟩
      case measure => simp [intOf]; omega
    · obtain rfl : k = c := by omega
      have hlt' : ¬ (k : Int) < (k : Int) := by omega
      have HF : Hid (OI wr B u0 (lay acc (s, (k : Int)))) := by show OI _ _ _ _; rw [HL.out]; exact HX.out
      clear HX
      obtain ⟨a2, p2, hu⟩ := HF.out.shape
      subst hu
      go_wp2
      go_ret
      exact ⟨_, rfl, HF.out, HB.out⟩

/-- How many lengths runs stand for. -/
def tot (R : List Rn) : Nat := (lays [] R).length

theorem tot_snoc (R : List Rn) (p : Rn) : tot (R ++ [p]) = tot R + p.2.toNat := by unfold tot; rw [lays_snoc, lay_len]
theorem rn_snoc {R : List Rn} {k : Nat} (h : k < R.length) : R.take (k + 1) = R.take k ++ [R.getD k rn0] := by
  rw [List.take_succ_eq_append_getElem h]
  simp [h]

theorem xpE_snoc : ∀ (S : List Rn) (a : List Int) (r : Rn), xpE a S = 0 → xpE a (S ++ [r]) = if Okr r then if r.1 = 16 ∧ lays a S = [] then 73 else 0 else 77
  | [], a, r, _ => rfl
  | q :: S, a, r, h => by
    simp only [xpE] at h
    by_cases h1 : Okr q
    · rw [if_pos h1] at h
      by_cases h2 : q.1 = 16 ∧ a = []
      · rw [if_pos h2] at h; omega
      · rw [if_neg h2] at h
        have := xpE_snoc S (lay a q) r h
        simp only [List.cons_append, xpE]
        rw [if_pos h1, if_neg h2]
        exact this
    · rw [if_neg h1] at h; omega

theorem xpE_front : ∀ (S T : List Rn) (a : List Int), xpE a S ≠ 0 → xpE a (S ++ T) = xpE a S
  | [], T, a, h => absurd rfl h
  | q :: S, T, a, h => by
    simp only [List.cons_append, xpE] at h ⊢
    by_cases h1 : Okr q
    · rw [if_pos h1] at h ⊢
      by_cases h2 : q.1 = 16 ∧ a = []
      · rw [if_pos h2]; rw [if_pos h1, if_pos h2]
      · rw [if_neg h2] at h ⊢
        rw [if_pos h1, if_neg h2]
        exact xpE_front S T (lay a q) h
    · rw [if_neg h1, if_neg h1]

/-- The first run that has an error tells it. -/
theorem xpE_at {R : List Rn} {k : Nat} (hk : k < R.length) (h0 : xpE [] (R.take k) = 0) :
    (¬ Okr (R.getD k rn0) → xpE [] R = 77) ∧ (Okr (R.getD k rn0) → (R.getD k rn0).1 = 16 → tot (R.take k) = 0 → xpE [] R = 73) ∧ (Okr (R.getD k rn0) → ((R.getD k rn0).1 = 16 → tot (R.take k) ≠ 0) → xpE [] (R.take (k + 1)) = 0) := by
  have e := xpE_snoc (R.take k) [] (R.getD k rn0) h0
  rw [← rn_snoc hk] at e
  have ez : lays [] (R.take k) = [] ↔ tot (R.take k) = 0 := by unfold tot; exact List.length_eq_zero_iff.symm
  have key : xpE [] (R.take (k + 1)) ≠ 0 → xpE [] R = xpE [] (R.take (k + 1)) := fun h => by
    have := xpE_front (R.take (k + 1)) (R.drop (k + 1)) [] h
    rwa [List.take_append_drop] at this
  refine ⟨fun h => ?_, fun h h1 h2 => ?_, fun h h1 => ?_⟩
  · rw [if_neg h] at e
    rw [key (by omega), e]
  · rw [if_pos h, if_pos ⟨h1, ez.2 h2⟩] at e
    rw [key (by omega), e]
  · rw [if_pos h, if_neg (fun q => h1 q.1 (ez.1 q.2))] at e
    exact e

theorem okr_parts {r : Rn} (h : Okr r) : ∃ s c : Nat, r = ((s : Int), (c : Int)) ∧ s < 19 ∧ lst s ≤ c ∧ (c : Int) ≤ mst s ∧ 1 ≤ c ∧ c ≤ 138 := by
  obtain ⟨a, b⟩ := r
  obtain ⟨h1, h2, h3, h4⟩ := h
  simp only at h1 h2 h3 h4
  obtain ⟨s, rfl⟩ := Int.eq_ofNat_of_zero_le h1
  have hs : s < 19 := by omega
  have hb : 1 ≤ b ∧ b ≤ 138 := by
    rcases tab_cases s hs with ⟨x, _, y⟩ | ⟨x, _, y⟩ | ⟨x, _, y⟩ | ⟨x, _, y⟩ <;> rw [x] at h3 <;> rw [y] at h4 <;> omega
  obtain ⟨c, rfl⟩ := Int.eq_ofNat_of_zero_le (show 0 ≤ b by omega)
  exact ⟨s, c, rfl, hs, h3, h4, by omega, by omega⟩

theorem tot_lem {R : List Rn} (h : xpE [] R = 0) : ∀ k, k ≤ R.length → xpE [] (R.take k) = 0 ∧ tot (R.take k) ≤ 138 * k := by
  intro k
  induction k with
  | zero => intro _; exact ⟨rfl, by simp [tot, lays]⟩
  | succ k ih =>
    intro hk
    obtain ⟨i1, i2⟩ := ih (by omega)
    obtain ⟨x1, x2, x3⟩ := xpE_at (k := k) (by omega) i1
    by_cases ok : Okr (R.getD k rn0)
    · obtain ⟨s, c, e, _, _, _, _, hc⟩ := okr_parts ok
      by_cases z : (R.getD k rn0).1 = 16 ∧ tot (R.take k) = 0
      · have := x2 ok z.1 z.2; omega
      · refine ⟨x3 ok (fun q q2 => z ⟨q, q2⟩), ?_⟩
        rw [rn_snoc (by omega), tot_snoc, e]
        simp only [Int.toNat_natCast]
        omega
    · have := x1 ok; omega

set_option maxHeartbeats 4000000 in
theorem expand_any (v : Value) (R : List Rn) (w : World) (h : SR w v R) (T : Tab w) (hn : R.length ≤ 1048576) :
    Calls Tryd.prog 12 #[v] w fun e w' => ∃ u, e = .returned (.tuple #[u, .int .i64 (xpE [] R)]) ∧ OI w' w.heap.size u (xpL R) ∧ Below w.heap.size w w' := by
  have HS := hide h
  have HT := hide T
  obtain ⟨ao, cap, rfl, hlc, hcm⟩ := h.open
  clear h T
  go_enter Tryd.func12, Tryd.ntmps12
  go_wp2
  go_loopw [4, 12] (fun t i wr => ∃ k : Nat, k ≤ R.length ∧ i = .int .i64 k ∧ t = .int .i64 (tot (R.take k) : Nat) ∧ tot (R.take k) ≤ 138 * k ∧ Hid (xpE [] (R.take k) = 0) ∧ Hid (Below w.heap.size w wr)) (fun _ i _ => R.length - (intOf i).toNat)
  case atStart => exact ⟨0, Nat.zero_le _, rfl, rfl, by simp [tot, lays], rfl, Below.refl _ _⟩
  case round =>
    obtain ⟨k, hk, rfl, rfl, ht, HX, HB⟩ := hrel
    by_cases hlt : k < R.length
    · have hlt' : (k : Int) < (R.length : Int) := by omega
      obtain ⟨b, o, rfl, c1, c2⟩ := HS.out.get HB.out hlt
      obtain ⟨x1, x2, x3⟩ := xpE_at hlt HX.out
      have HTS := hide (tot_snoc (R.take k) (R.getD k rn0))
      rw [← rn_snoc hlt] at HTS
      obtain ⟨r, hr⟩ : ∃ r, r = R.getD k rn0 := ⟨_, rfl⟩
      rw [← hr] at c1 c2 x1 x2 x3 HTS
      obtain ⟨s, c⟩ := r
      clear hr
      simp only at c1 c2 x2 x3 HTS
      have HB2 : Hid (Below w.heap.size w (wr.alloc (.cells #[.int .i64 s, .int .i64 c] 39))) := HB.out.alloc (HB.out.size) _
      obtain ⟨wb, hwb⟩ : ∃ wb, wr.alloc (.cells #[.int .i64 s, .int .i64 c] 39) = wb := ⟨_, rfl⟩
      have d1 : wb.cell? ⟨wr.heap.size, 0, none⟩ = some (.int .i64 s) := by rw [← hwb]; unfold World.cell?; simp only [heap_alloc_new]; rfl
      have d2 : wb.cell? ⟨wr.heap.size, 1, none⟩ = some (.int .i64 c) := by rw [← hwb]; unfold World.cell?; simp only [heap_alloc_new]; rfl
      rw [hwb] at HB2
      have HTB := hide (HT.out.mono HB2.out)
      have HWB := hide hwb
      clear hwb
      by_cases ok : Okr (s, c)
      · obtain ⟨s, c, e, hs, hc1, hc2, hc3, hc4⟩ := okr_parts ok
        simp only [Prod.mk.injEq] at e
        obtain ⟨rfl, rfl⟩ := e
        have f1 := HTB.out.least s hs
        have HCall : Hid (∀ n, Calls Tryd.prog 32 #[.int .i64 s] (wb.drewN n) fun e w'' => e = .returned (.int .i64 (mst s)) ∧ ∃ m, w'' = wb.drewN m) := fun n => (most_any s (wb.drewN n) hs (HTB.out.drewN n)).mono fun e w' ⟨he, q, hw⟩ => ⟨he, n + q, by rw [hw, World.drewN_drewN]⟩
        have g1 : decide ((s : Int) < 0) = false := decide_eq_false (by omega)
        have g2 : decide ((19 : Int) ≤ (s : Int)) = false := decide_eq_false (by omega)
        have g3 : decide ((c : Int) < lst s) = false := decide_eq_false (by omega)
        have g4 : decide (mst s < (c : Int)) = false := decide_eq_false (by omega)
        have s19 : (s : Int) < 19 := by omega
        obtain ⟨L, hL⟩ : ∃ L, L = lst s := ⟨_, rfl⟩
        obtain ⟨M, hM⟩ : ∃ M, M = mst s := ⟨_, rfl⟩
        rw [← hL] at f1 g3 hc1
        rw [← hM] at HCall g4 hc2
        clear hL hM x1
        have x3' := x3 ok
        have x2' := x2 ok
        clear x2 x3 ok
        obtain ⟨t, HTT⟩ : ∃ t, Hid (t = tot (R.take k)) := ⟨_, rfl⟩
        rw [← HTT.out] at ht x2' x3' HTS ⊢
        rw [Int.toNat_natCast] at HTS
        have HX3 := hide x3'
        have HX2 := hide x2'
        have HBD : Hid (∀ q, Below w.heap.size w (wb.drewN q)) := fun q => below_drewN HB2.out q
        clear x2' x3'
        by_cases e16 : s = 16
        · have g5 : ((s : Int) == 16) = true := by simp; omega
          by_cases tz : t = 0
          · have g6 : ((t : Int) == 0) = true := by simp; omega
            have HE := hide (HX2.out (by omega) tz)
            clear e16 tz
            have HLL : Hid (xpL R = []) := by show _ = _; unfold xpL; rw [HE.out]; rfl
            go_wp2
            rw [HWB.out]
            go_quiet (first | (go_at_call 32; exact HCall.out _))
            go_wp2
            go_ret2
            rw [HE.out, HLL.out]
            exact ⟨_, rfl, World.ownsRow_nil _ _ _ _, HBD.out _⟩
          · have HE := hide (HX3.out (fun _ => tz))
            have g6 : ((t : Int) == 0) = false := by simp; omega
            clear HX2 HX3 e16
            go_wp2
            rw [HWB.out]
            go_quiet (first | (go_at_call 32; exact HCall.out _))
            go_wp2
            go_roundw
            case rel => exact ⟨k + 1, by omega, by go_num, by rw [HTS.out]; go_num, by rw [HTS.out]; omega, HE, HBD.out _⟩
            case measure => simp [intOf]; omega
        · have HE := hide (HX3.out (fun q => absurd (by omega) e16))
          have g5 : ((s : Int) == 16) = false := by simp; omega
          clear HX2 HX3
          go_wp2
          rw [HWB.out]
          go_quiet (first | (go_at_call 32; exact HCall.out _))
          go_wp2
          go_roundw
          case rel => exact ⟨k + 1, by omega, by go_num, by rw [HTS.out]; go_num, by rw [HTS.out]; omega, HE, HBD.out _⟩
          case measure => simp [intOf]; omega
      · have HE := hide (x1 ok)
        have HLL : Hid (xpL R = []) := by show _ = _; unfold xpL; rw [HE.out]; rfl
        have HBD : Hid (∀ q, Below w.heap.size w (wb.drewN q)) := fun q => below_drewN HB2.out q
        clear x1 x2 x3
        by_cases n1 : s < 0
        · have g1 : decide (s < 0) = true := decide_eq_true n1
          go_wp2
          rw [HWB.out]
          go_quiet (fail)
          go_wp2
          go_ret2
          rw [HE.out, HLL.out]
          exact ⟨_, rfl, World.ownsRow_nil _ _ _ _, HBD.out _⟩
        · have g1 : decide (s < 0) = false := decide_eq_false n1
          by_cases n2 : 19 ≤ s
          · have g2 : decide ((19 : Int) ≤ s) = true := decide_eq_true n2
            go_wp2
            rw [HWB.out]
            go_quiet (fail)
            go_wp2
            go_ret2
            rw [HE.out, HLL.out]
            exact ⟨_, rfl, World.ownsRow_nil _ _ _ _, HBD.out _⟩
          · have g2 : decide ((19 : Int) ≤ s) = false := decide_eq_false n2
            obtain ⟨s, rfl⟩ := Int.eq_ofNat_of_zero_le (show 0 ≤ s by omega)
            have hs : s < 19 := by omega
            have s19 : (s : Int) < 19 := by omega
            have f1 := HTB.out.least s hs
            have HCall : Hid (∀ n, Calls Tryd.prog 32 #[.int .i64 s] (wb.drewN n) fun e w'' => e = .returned (.int .i64 (mst s)) ∧ ∃ m, w'' = wb.drewN m) := fun n => (most_any s (wb.drewN n) hs (HTB.out.drewN n)).mono fun e w' ⟨he, q, hw⟩ => ⟨he, n + q, by rw [hw, World.drewN_drewN]⟩
            have hbad : c < lst s ∨ mst s < c := by
              by_cases q1 : c < lst s
              · exact .inl q1
              · by_cases q2 : mst s < c
                · exact .inr q2
                · exact absurd ⟨by simp only; omega, by simp only; omega, by simp only; omega, by simp only; omega⟩ ok
            obtain ⟨L, hL⟩ : ∃ L, L = lst s := ⟨_, rfl⟩
            obtain ⟨M, hM⟩ : ∃ M, M = mst s := ⟨_, rfl⟩
            rw [← hL] at f1 hbad
            rw [← hM] at HCall hbad
            clear hL hM ok
            by_cases q1 : c < L
            · have g3 : decide (c < L) = true := decide_eq_true q1
              go_wp2
              rw [HWB.out]
              go_quiet (first | (go_at_call 32; exact HCall.out _))
              go_wp2
              go_ret2
              rw [HE.out, HLL.out]
              exact ⟨_, rfl, World.ownsRow_nil _ _ _ _, HBD.out _⟩
            · have g3 : decide (c < L) = false := decide_eq_false q1
              have q2 : M < c := by omega
              have g4 : decide (M < c) = true := decide_eq_true q2
              go_wp2
              rw [HWB.out]
              go_quiet (first | (go_at_call 32; exact HCall.out _))
              go_wp2
              go_ret2
              rw [HE.out, HLL.out]
              exact ⟨_, rfl, World.ownsRow_nil _ _ _ _, HBD.out _⟩
    · obtain rfl : k = R.length := by omega
      have hlt' : ¬ (R.length : Int) < (R.length : Int) := by omega
      have HE : Hid (xpE [] R = 0) := by have := HX.out; rwa [List.take_of_length_le (Nat.le_refl _)] at this
      have HLE := hide (tot_lem HE.out)
      have HLL : Hid (xpL R = lays [] R) := by show _ = _; unfold xpL; rw [HE.out]; rfl
      obtain ⟨t, HTT⟩ : ∃ t, Hid (t = tot (R.take R.length)) := ⟨_, rfl⟩
      rw [← HTT.out] at ht ⊢
      have hbw := HB.out.size
      go_wp2_with (at_make; refine wpList_mkI rfl _ _ rfl _ _ _ _ 0 t rfl rfl rfl rfl (Nat.zero_le _) (by omega) ?_)
      intro w2 hg2 hb2
      have HB2 := hide (HB.out.trans (hb2.mono hbw))
      have HO2 : Hid (OI w2 w.heap.size (.slice (some ⟨wr.heap.size, 0, none⟩) 0 t) []) := ⟨rfl, .inr ⟨wr.heap.size, t, _, rfl, hbw, hg2, Nat.zero_le _, by unfold maxLen; omega, by simp, rfl⟩⟩
      clear hg2 hb2
      go_wp2
      go_loopw [7, 57] (fun u i wr => ∃ k : Nat, k ≤ R.length ∧ i = .int .i64 k ∧ Hid (OI wr w.heap.size u (lays [] (R.take k))) ∧ Hid (Below w.heap.size w wr)) (fun _ i _ => R.length - (intOf i).toNat)
      case atStart => exact ⟨0, Nat.zero_le _, rfl, HO2.out, HB2.out⟩
      case round =>
        obtain ⟨k, hk2, rfl, HO, HB3⟩ := hrel
        by_cases hlt : k < R.length
        · have hlt3 : (k : Int) < (R.length : Int) := by omega
          obtain ⟨b, o, rfl, c1, c2⟩ := HS.out.get HB3.out hlt
          obtain ⟨z1, z2⟩ := HLE.out k hk2
          obtain ⟨x1, x2, x3⟩ := xpE_at hlt z1
          have ok : Okr (R.getD k rn0) := Classical.byContradiction fun q => by have := x1 q; rw [HE.out] at this; omega
          have nz : (R.getD k rn0).1 = 16 → 0 < (lays [] (R.take k)).length := fun q => by
            by_cases z : tot (R.take k) = 0
            · have := x2 ok q z; rw [HE.out] at this; omega
            · have : tot (R.take k) = (lays [] (R.take k)).length := rfl
              omega
          have HSN : Hid (lays [] (R.take (k + 1)) = lay (lays [] (R.take k)) (R.getD k rn0)) := by show _ = _; rw [rn_snoc hlt, lays_snoc]
          obtain ⟨s, c, e, hs, hc1, hc2, hc3, hc4⟩ := okr_parts ok
          rw [e] at c1 c2 nz HSN
          have htl : (lays [] (R.take k)).length ≤ 1000000000 := by have : tot (R.take k) = (lays [] (R.take k)).length := rfl; omega
          have hbs : w.heap.size ≤ (wr.alloc (.cells #[.int .i64 s, .int .i64 c] 39)).heap.size := by simp; have := HB3.out.size; omega
          have HLAY := hide (layr_any u7 (lays [] (R.take k)) s c (wr.alloc (.cells #[.int .i64 s, .int .i64 c] 39)) w.heap.size (HO.out.alloc _) hbs nz hc4 htl)
          have HB4 := hide (HB3.out.alloc (HB3.out.size) (.cells #[.int .i64 s, .int .i64 c] 39))
          obtain ⟨a7, p7, hu7⟩ := HO.out.shape
          obtain ⟨D, HD⟩ : ∃ D, Hid (D = lays [] (R.take k)) := ⟨_, rfl⟩
          rw [← HD.out] at HSN HLAY hu7 HO
          subst hu7
          clear x1 x2 x3 ok e nz z1 z2 htl
          simp only at c1 c2
          go_wp2_with fail
          refine HLAY.out.mono ?_
          rintro e w5 ⟨u5, rfl, ho5, hb5⟩
          have HN : Hid (OI w5 w.heap.size u5 (lays [] (R.take (k + 1))) ∧ Below w.heap.size w w5) := ⟨by rw [HSN.out]; exact ho5, HB4.out.trans hb5⟩
          clear ho5 hb5
          go_wp2
          go_roundw
          case rel => exact ⟨k + 1, by omega, by go_num, HN.out.1, HN.out.2⟩
          case measure => simp [intOf]; omega
        · obtain rfl : k = R.length := by omega
          have hlt3 : ¬ (R.length : Int) < (R.length : Int) := by omega
          have HF : Hid (OI wr w.heap.size u7 (xpL R)) := by
            have := HO.out
            rw [List.take_of_length_le (Nat.le_refl _)] at this
            show OI _ _ _ _
            rw [HLL.out]
            exact this
          go_wp2
          go_ret2
          rw [HE.out]
          exact ⟨_, rfl, HF.out, HB3.out⟩
end Go.Proofs.YtegoienjikjhkaaDoor

namespace Go.Proofs.YtegoienjikjhkaaDoor
open Go.RowKit Go.Maps
set_option maxRecDepth 20000
set_option linter.unusedVariables false

theorem within_any (v : Value) (l : List Int) (w : World) (h : SI w v l) :
    Calls Tryd.prog 19 #[v] w fun e w' => e = .returned (.bool (wthb l)) ∧ w' = w := by
  have HS := hide h
  obtain ⟨ao, cap, rfl, hlc, hcm⟩ := h.open
  clear h
  go_enter Tryd.func19, Tryd.ntmps19
  go_wp2
  go_loopw [3] (fun i wr => ∃ k : Nat, k ≤ l.length ∧ i = .int .i64 k ∧ wr = w ∧ Hid (∀ x ∈ l.take k, 0 ≤ x ∧ x ≤ 15)) (fun i _ => l.length - (intOf i).toNat)
  case atStart => exact ⟨0, Nat.zero_le _, rfl, rfl, fun x hx => by simp at hx⟩
  case round =>
    obtain ⟨k, hk, rfl, hw, HA⟩ := hrel
    subst hw
    by_cases hlt : k < l.length
    · have hlt' : (k : Int) < (l.length : Int) := by omega
      obtain ⟨b, o, rfl, hc⟩ := HS.out.get (Below.refl _ _) hlt
      have HN := hide (fun q => all_snoc hlt HA.out q)
      have HB := hide (fun q => wth_bad hlt q)
      obtain ⟨y, HY⟩ : ∃ y, Hid (y = l.getD k 0) := ⟨_, rfl⟩
      rw [← HY.out] at hc HN HB
      by_cases h0 : y < 0
      · have HF : Hid (wthb l = false) := HB.out (by omega)
        go_wp2
        go_ret
        rw [HF.out]
        exact ⟨rfl, rfl⟩
      · by_cases h15 : 15 < y
        · have HF : Hid (wthb l = false) := HB.out (by omega)
          go_wp2
          go_ret
          rw [HF.out]
          exact ⟨rfl, rfl⟩
        · have HN2 := hide (HN.out ⟨by omega, by omega⟩)
          go_wp2
          go_roundw
          case rel => exact ⟨k + 1, by omega, by go_num, trivial, HN2⟩
          case measure => simp [intOf]; omega
    · obtain rfl : k = l.length := by omega
      have hlt' : ¬ (l.length : Int) < (l.length : Int) := by omega
      have HF : Hid (wthb l = true) := wth_iff.2 (by have := HA.out; rwa [List.take_of_length_le (Nat.le_refl _)] at this)
      go_wp2
      go_ret
      rw [HF.out]
      exact ⟨rfl, rfl⟩

end Go.Proofs.YtegoienjikjhkaaDoor

