import Derived.Test.YtncniahpglgkmaaG33Arr2
import Derived.Test.YtncniahpglgkmaaG43Trn
namespace Go.Proofs.Ytncniahpglgkmaa
open Go.RowKit Go.Maps
set_option maxRecDepth 20000
set_option linter.unusedVariables false
set_option linter.unusedSimpArgs false

/-- How often each byte comes in a text. -/
def cts (t : List Int) : List Int := (List.range 256).map fun s : Nat => ((t.count (s : Int) : Nat) : Int)

theorem cts_len (t : List Int) : (cts t).length = 256 := by simp [cts]

theorem cts_get (t : List Int) {s : Nat} (h : s < 256) : (cts t).getD s 0 = ((t.count (s : Int) : Nat) : Int) := by
  simp [cts, List.getD, h]

theorem cts_sound {t : List Int} (h : t.length ≤ 16777216) : Sound (cts t) := by
  refine ⟨by rw [cts_len]; omega, fun i hi => ?_⟩
  rw [cts_len] at hi
  rw [cts_get t hi]
  have := List.count_le_length (a := (i : Int)) (l := t)
  omega

theorem fq_cts (t : List Int) {s : Nat} (h : s < 256) : fq (cts t) s = t.count (s : Int) := by
  unfold fq
  rw [cts_get t h]
  simp

theorem sum_zero : ∀ L : List Nat, (L.map fun _ => (0 : Nat)).sum = 0
  | [] => rfl
  | _ :: L => by rw [List.map_cons, List.sum_cons, sum_zero L]

/-- A sum over a text's bytes is one over the values. -/
theorem sum_cts (g : Nat → Nat) : ∀ t : List Int, (∀ x ∈ t, 0 ≤ x ∧ x < 256) → (t.map fun x => g x.toNat).sum = ((List.range 256).map fun s : Nat => t.count (s : Int) * g s).sum
  | [], _ => by simp [sum_zero]
  | a :: t, h => by
    have ha := h a (List.mem_cons_self ..)
    have ih := sum_cts g t fun x hx => h x (List.mem_cons_of_mem _ hx)
    rw [List.map_cons, List.sum_cons, ih]
    have key : ∀ (L : List Nat), L.Nodup → ((L.map fun s : Nat => (a :: t).count (s : Int) * g s).sum = (L.map fun s : Nat => t.count (s : Int) * g s).sum + if a.toNat ∈ L then g a.toNat else 0) := by
      intro L hL
      induction L with
      | nil => simp
      | cons b L ihL =>
        obtain ⟨hb, hL'⟩ := List.nodup_cons.1 hL
        rw [List.map_cons, List.map_cons, List.sum_cons, List.sum_cons, ihL hL', List.count_cons]
        by_cases e : a = (b : Int)
        · have e2 : a.toNat = b := by omega
          rw [e2, if_neg hb, if_pos (List.mem_cons_self ..)]
          simp [e, Nat.add_mul]
          omega
        · have e2 : a.toNat ≠ b := by omega
          have e3 : (a == (b : Int)) = false := by simpa using e
          rw [e3]
          simp only [Bool.false_eq_true, if_false, Nat.add_zero, List.mem_cons, e2, false_or]
          omega
    rw [key _ List.nodup_range, if_pos (by rw [List.mem_range]; omega)]
    omega

theorem sum_filter (q : Nat → Bool) (g : Nat → Nat) : ∀ L : List Nat, (∀ s ∈ L, q s = false → g s = 0) → ((L.filter q).map g).sum = (L.map g).sum
  | [], _ => rfl
  | a :: L, h => by
    have ih := sum_filter q g L fun s hs => h s (List.mem_cons_of_mem _ hs)
    cases e : q a with
    | true => rw [List.filter_cons_of_pos e, List.map_cons, List.map_cons, List.sum_cons, List.sum_cons, ih]
    | false => rw [List.filter_cons_of_neg (by simp [e]), List.map_cons, List.sum_cons, ih, h a (List.mem_cons_self ..) e, Nat.zero_add]

/-- What a text takes under some lengths. -/
theorem ft_cost {l t : List Int} (ht : ∀ x ∈ t, 0 ≤ x ∧ x < 256) (hl : l.length = 256) (hn : ∀ x ∈ t, lnI l x ≠ 0) : (ft l t t.length).length = fl (fq (cts t)) (nn l) (us6 (cts t)) := by
  have e1 : kep l t = t := by
    unfold kep
    rw [List.filter_eq_self]
    intro x hx
    simpa using hn x hx
  have e2 : (ft l t t.length).length = (t.map fun x => nn l x.toNat).sum := by
    unfold ft
    rw [List.take_length, e1]
    unfold flat
    rw [List.length_flatMap]
    congr 1
    apply List.map_congr_left
    intro x hx
    rw [wb_len]; first | done | rfl
  rw [e2, sum_cts (nn l) t ht]
  unfold fl us6 usk
  rw [cts_len, sum_filter]
  · refine congrArg List.sum (List.map_congr_left fun s hs => ?_)
    rw [fq_cts t (List.mem_range.1 hs)]
  · intro s hs h0
    have hs' := List.mem_range.1 hs
    rw [fq_cts t hs']
    have : t.count (s : Int) = 0 := by
      simp only [decide_eq_false_iff_not] at h0
      rw [cts_get t hs'] at h0
      omega
    rw [this, Nat.zero_mul]

theorem usum_range (o : List Int) : usum o = ((List.range o.length).map fun s => wt (o.getD s 0)).sum := by
  unfold usum
  congr 1
  apply List.ext_getElem
  · simp
  · intro i h1 h2
    simp at h1
    simp [h1]

theorem tsum_range (o : List Int) : tsum o = ((List.range o.length).map fun s => one (o.getD s 0)).sum := by
  unfold tsum
  congr 1
  apply List.ext_getElem
  · simp
  · intro i h1 h2
    simp at h1
    simp [h1]

/-- A good list of lengths makes a code. -/
theorem gd_code {f l : List Int} {L : Nat} (hs : Sound f) (hL : L ≤ 15) (h : Gd f l L) : bkE l = 0 ∧ (us6 f ≠ [] → dcE l = 0) ∧ ∀ s, s ∈ us6 f → lnI l (s : Int) ≠ 0 := by
  have hat : ∀ i, 0 ≤ l.getD i 0 ∧ l.getD i 0 ≤ 15 := fun i => by
    by_cases c : i < f.length
    · by_cases z : f.getD i 0 = 0
      · rw [h.zero i c z]; omega
      · have := h.ok i (mem_us.2 ⟨c, by have := hs.nn i; omega⟩)
        omega
    · rw [List.getD_eq_getElem?_getD, List.getElem?_eq_none (by rw [h.len]; omega)]
      exact ⟨Int.le_refl _, by decide⟩
  have hlens : Lens l := ⟨by rw [h.len]; exact hs.len, fun x hx => by
    obtain ⟨i, hi, rfl⟩ := List.getElem_of_mem hx
    have := hat i
    rw [List.getD_eq_getElem?_getD, List.getElem?_eq_getElem hi] at this
    exact this⟩
  have hck : chkE l = 0 := by unfold chkE; rw [if_neg (by have := hlens.1; omega), if_pos hlens]
  have hlen := h.len
  have hz : ∀ s ∈ List.range f.length, decide (0 < f.getD s 0) = false → l.getD s 0 = 0 := fun s hsr h0 => by
    have hsr := List.mem_range.1 hsr
    exact h.zero s hsr (by have := hs.nn s; simp only [decide_eq_false_iff_not] at h0; omega)
  have eu : usum l = ((us6 f).map fun s => wt (l.getD s 0)).sum := by
    rw [usum_range, hlen]
    unfold us6 usk
    rw [sum_filter]
    intro s hsr h0
    rw [hz s hsr h0]
    rfl
  have et : tsum l = ((us6 f).map fun s => one (l.getD s 0)).sum := by
    rw [tsum_range, hlen]
    unfold us6 usk
    rw [sum_filter]
    intro s hsr h0
    rw [hz s hsr h0]
    rfl
  have hok : ∀ s ∈ us6 f, 1 ≤ l.getD s 0 ∧ l.getD s 0 ≤ 15 := fun s hm => by
    have := h.ok s hm
    omega
  have et2 : tsum l = (us6 f).length := by
    rw [et]
    have : ∀ Q : List Nat, (∀ s ∈ Q, 1 ≤ l.getD s 0 ∧ l.getD s 0 ≤ 15) → (Q.map fun s => one (l.getD s 0)).sum = Q.length := by
      intro Q hQ
      induction Q with
      | nil => rfl
      | cons a Q ih =>
        have ha := hQ a (List.mem_cons_self ..)
        rw [List.map_cons, List.sum_cons, ih (fun s hs => hQ s (List.mem_cons_of_mem _ hs)), List.length_cons]
        unfold one
        rw [if_pos (by omega)]
        omega
    exact this _ hok
  have ek : kr (nn l) (us6 f) = 2 ^ 45 * usum l := by
    rw [eu]
    unfold kr
    have : ∀ Q : List Nat, (∀ s ∈ Q, 1 ≤ l.getD s 0 ∧ l.getD s 0 ≤ 15) → (Q.map fun s => 2 ^ (60 - nn l s)).sum = 2 ^ 45 * (Q.map fun s => wt (l.getD s 0)).sum := by
      intro Q hQ
      induction Q with
      | nil => rfl
      | cons a Q ih =>
        have ha := hQ a (List.mem_cons_self ..)
        rw [List.map_cons, List.map_cons, List.sum_cons, List.sum_cons, ih (fun s hs => hQ s (List.mem_cons_of_mem _ hs)), Nat.mul_add]
        congr 1
        unfold nn wt
        rw [if_pos (by omega), ← Nat.pow_add]
        congr 1
        omega
    exact this _ hok
  have hshp : shp l = 0 ∨ shp l = 1 ∨ shp l = 4 := by
    unfold shp
    by_cases c0 : (us6 f).length = 0
    · rw [if_pos (by rw [et2, c0])]; exact .inl rfl
    · rw [if_neg (by rw [et2]; exact c0)]
      by_cases c1 : (us6 f).length = 1
      · have hu1 : usum l = 16384 := by
          rw [eu]
          match hu : us6 f with
          | [] => rw [hu] at c0; simp at c0
          | [a] =>
            have := h.one c1 a (by rw [hu]; simp)
            rw [List.map_cons, this]; rfl
          | a :: b :: r => rw [hu] at c1; simp at c1
        rw [if_pos ⟨by rw [et2]; exact c1, hu1⟩]; exact .inr (.inl rfl)
      · have hall := h.all (by omega)
        rw [ek] at hall
        have hu4 : usum l = 32768 := by
          have : (2 : Nat) ^ 60 = 2 ^ 45 * 32768 := by decide
          rw [this] at hall
          exact Nat.eq_of_mul_eq_mul_left (by decide) hall
        rw [if_neg (by omega), if_neg (by omega), if_pos hu4]; exact .inr (.inr rfl)
  have hbk : bkE l = 0 := by unfold bkE; rw [if_neg (by simp [hck]), if_neg (by omega), if_neg (by omega)]
  refine ⟨hbk, fun hne => ?_, fun s hm => ?_⟩
  · have h0 : shp l ≠ 0 := by
      unfold shp
      rw [if_neg (by rw [et2]; cases hu : us6 f with | nil => exact absurd hu hne | cons a r => simp)]
      split
      · decide
      · split
        · decide
        · split <;> decide
    unfold dcE
    rw [if_neg (by simp [hbk]), if_neg h0]
  · have h1 := hok s hm
    have h2 := (mem_us.1 hm).1
    unfold lnI
    rw [if_pos ⟨by omega, by omega⟩]
    unfold ln
    simp only [Int.toNat_natCast]
    omega

theorem us6_mem {t : List Int} (ht : ∀ x ∈ t, 0 ≤ x ∧ x < 256) {x : Int} (hx : x ∈ t) : x.toNat ∈ us6 (cts t) := by
  have h := ht x hx
  refine mem_us.2 ⟨by rw [cts_len]; omega, ?_⟩
  rw [cts_get t (by omega)]
  have : 0 < t.count x := List.count_pos_iff.2 hx
  have e : ((x.toNat : Nat) : Int) = x := by omega
  rw [e]
  omega
end Go.Proofs.Ytncniahpglgkmaa

