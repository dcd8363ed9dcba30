import Derived.Test.YtkmefeihkmbngaaDoorG02Arr
import Derived.Test.YtkmefeihkmbngaaDoorG04OpenA
import Derived.OpenShut
import Derived.Test.YtkmefeihkmbngaaDoorG03Lsk
import Init
namespace Go.Proofs.YtkmefeihkmbngaaDoor
open Go.ChangeShapes Go.WideShapes Go.ChangeAt Go.RowKit Go.Joins Go.Deep
set_option maxRecDepth 20000

theorem bytesTok : Tryd.prog.bytesOf 48 = 24 := by kernel_rfl
theorem cellsTok : Tryd.prog.cellsOf 48 = 3 := by kernel_rfl

theorem listc3 {α : Type} {l : List α} (h : l.length = 3) : ∃ a b c, l = [a, b, c] := by
  match l, h with
  | [a, b, c], _ => exact ⟨a, b, c, rfl⟩

theorem open_tok {H : Type} {enc : TypeId × Value → H} {W : World} {n : Nat} {cs : List Value} {y : DataW H × List MemPlace} (h : DataW.trod enc Tryd.prog W 0 (fun _ => true) true n 48 cs = some y) :
    ∃ o : Tk, Bt o ∧ cs = [.int .i64 o.1, .int .i64 o.2.1, .int .u8 o.2.2] := by
  obtain ⟨xs, m, _, rfl, hl, hxl, hf⟩ := DataW.trod_struct Tryd.underlying48 h
  rw [cellsTok] at hl
  obtain ⟨c0, c1, c2, rfl⟩ := listc3 hl
  obtain ⟨y0, y1, y2, rfl⟩ := listc3 hxl
  have h0 : DataW.trod enc Tryd.prog W 0 (fun _ => true) true m 3 (([c0, c1, c2].drop 0).take (Tryd.prog.cellsOf 3)) = some y0 := hf 0 _ rfl
  have h1 : DataW.trod enc Tryd.prog W 0 (fun _ => true) true m 3 (([c0, c1, c2].drop 1).take (Tryd.prog.cellsOf 3)) = some y1 := hf 1 _ rfl
  have h2 : DataW.trod enc Tryd.prog W 0 (fun _ => true) true m 5 (([c0, c1, c2].drop 2).take (Tryd.prog.cellsOf 5)) = some y2 := hf 2 _ rfl
  rw [show Tryd.prog.cellsOf 3 = 1 by kernel_rfl] at h0 h1
  rw [show Tryd.prog.cellsOf 5 = 1 by kernel_rfl] at h2
  simp only [List.drop, List.take] at h0 h1 h2
  obtain ⟨k0, e0, _, _⟩ := DataW.trod_int Tryd.underlying3 h0
  obtain ⟨k1, e1, _, _⟩ := DataW.trod_int Tryd.underlying3 h1
  obtain ⟨k2, e2, _, q2⟩ := DataW.trod_int Tryd.underlying5 h2
  simp at e0 e1 e2
  subst e0 e1 e2
  exact ⟨(k0, k1, k2), byte_wf q2, rfl⟩

theorem open_toks {H : Type} {enc : TypeId × Value → H} {W : World} {ao : Option Addr} {len cap : Nat} {d : DataW H} {ps : List MemPlace}
    (h : DataW.Trod enc Tryd.prog W 0 (fun _ => true) true 22 (.slice ao len cap) d ps) : ∃ R, SK W (.slice ao len cap) R ∧ (∀ t ∈ R, Bt t) ∧ (R = [] ∨ ∃ elems spare, d = .slice elems spare ∧ elems.length = R.length) := by
  obtain ⟨fuel, hf⟩ := h
  rcases open_slice Tryd.underlying22 hf with ⟨hcs, _⟩ | ⟨a, ln, cp, m, n, D, Pl, hcs, _, hl, hm, hmm, hx, hel⟩
  · simp [Value.cells] at hcs
    obtain ⟨rfl, rfl, rfl⟩ := hcs
    exact ⟨[], ⟨none, 0, rfl, Nat.le_refl _, Nat.zero_le _, fun _ => rfl, fun x hx => by cases hx⟩, (fun t ht => by cases ht), .inl rfl⟩
  · simp [Value.cells] at hcs
    obtain ⟨rfl, rfl, rfl⟩ := hcs
    simp only [if_true] at hmm
    obtain ⟨R, hlo, hR⟩ := exists_list (fun i (o : Tk) => Bt o ∧ W.cell? (a.add (i * 3)) = some (.int .i64 o.1) ∧ W.cell? (a.add (i * 3 + 1)) = some (.int .i64 o.2.1) ∧ W.cell? (a.add (i * 3 + 2)) = some (.int .u8 o.2.2)) len (fun i hi => by
      obtain ⟨cs', hc, ht⟩ := hel i (by omega)
      obtain ⟨o, hbo, rfl⟩ := open_tok ht
      rw [cellsTok] at hc
      obtain ⟨_, _, hcell⟩ := World.cells?_some hc
      have hab' : ∃ b' of', a = ⟨b', of', none⟩ := by
        obtain ⟨cs0, hc0, ht0⟩ := hel 0 (by omega)
        rw [cellsTok] at hc0
        obtain ⟨_, hl0, hcell0⟩ := World.cells?_some hc0
        have h0 := hcell0 0 (by omega)
        rw [List.getElem?_eq_getElem (show 0 < cs0.length by omega), show (a.add (0 * 3)).add 0 = a.add 0 by simp [Addr.add]] at h0
        exact addr_lit h0
      obtain ⟨b', of', rfl⟩ := hab'
      have hc' : ∀ j, j < 3 → W.cell? ⟨b', of' + i * 3 + j, none⟩ = [Value.int .i64 o.1, .int .i64 o.2.1, .int .u8 o.2.2][j]? := fun j hj => by
        have := hcell j hj
        rw [Addr.add_lit, Addr.add_lit] at this
        exact this
      exact ⟨o, hbo, by rw [Addr.add_lit]; exact hc' 0 (by omega), by rw [Addr.add_lit]; exact hc' 1 (by omega), by rw [Addr.add_lit]; exact hc' 2 (by omega)⟩)
    simp only [Prod.mk.injEq] at hx
    refine ⟨R, ⟨some a, cap, by rw [hlo], by omega, hm, (fun e => by cases e), fun x hx i hi => ?_⟩, fun t ht => ?_, .inr ⟨_, _, hx.1, by simp [hlo]⟩⟩
    · cases hx
      have := hR i (R.getD i tk0) (by simp [hi])
      exact this.2
    · obtain ⟨i, hi, rfl⟩ := List.getElem_of_mem ht
      exact (hR i _ (by simp [hi])).1

theorem reach_toks {H : Type} {ts : List TypeId} {ds : List (DataW H)} {j : Nat} {R : List Tk} {d : DataW H} (h : (DataW.weightsEach Tryd.prog ts ds).all (· ≤ reachBytes) = true) (ht : ts[j]? = some 22) (hd : ds[j]? = some d)
    (hl : R = [] ∨ ∃ elems spare, d = .slice elems spare ∧ elems.length = R.length) : R.length ≤ 5864062014800 := by
  rcases hl with rfl | ⟨elems, spare, rfl, hl⟩
  · simp
  · have := sized_slice h ht hd Tryd.underlying22
    rw [bytesTok] at this
    simp only [reachBytes] at this
    omega

end Go.Proofs.YtkmefeihkmbngaaDoor

namespace Go.Proofs.YtkmefeihkmbngaaDoor
open Go.RowKit Go.Maps
set_option maxRecDepth 20000
set_option linter.unusedVariables false

theorem eqI_self (l : List Int) : eqI l l = true := by simp [eqI]

end Go.Proofs.YtkmefeihkmbngaaDoor

namespace Go.Proofs.YtkmefeihkmbngaaDoor

/-! The coin collector's theorem (package-merge), in numbers: leaves w by rising weight; a row is leaves and packages merged. -/

def Rise (l : List Nat) : Prop := l.Pairwise (· ≤ ·)

def pks : List Nat → List Nat
  | a :: b :: r => (a + b) :: pks r
  | _ => []

def mrg : List Nat → List Nat → List Nat
  | [], p => p
  | a :: w, [] => a :: w
  | a :: w, b :: p => if a ≤ b then a :: mrg w (b :: p) else b :: mrg (a :: w) p
termination_by w p => w.length + p.length

def cnt : List Nat → List Nat → Nat → Nat
  | _, _, 0 => 0
  | [], _, _ => 0
  | _ :: w, [], m + 1 => cnt w [] m + 1
  | a :: w, b :: p, m + 1 => if a ≤ b then cnt w (b :: p) m + 1 else cnt (a :: w) p m
termination_by w p _ => w.length + p.length

theorem mrg_len (w p : List Nat) : (mrg w p).length = w.length + p.length := by
  induction w, p using mrg.induct with
  | case1 p => simp [mrg]
  | case2 a w => simp [mrg]
  | case3 a w b p h ih => simp only [mrg, if_pos h, List.length_cons] at ih ⊢; omega
  | case4 a w b p h ih => simp only [mrg, if_neg h, List.length_cons] at ih ⊢; omega

theorem mrg_mem {w p : List Nat} {x : Nat} (h : x ∈ mrg w p) : x ∈ w ∨ x ∈ p := by
  induction w, p using mrg.induct with
  | case1 p => simp [mrg] at h; exact .inr h
  | case2 a w => simp [mrg] at h; exact .inl (by simpa using h)
  | case3 a w b p c ih =>
    simp only [mrg, if_pos c] at h
    rcases List.mem_cons.1 h with rfl | h
    · simp
    · rcases ih h with h | h
      · exact .inl (by simp [h])
      · exact .inr h
  | case4 a w b p c ih =>
    simp only [mrg, if_neg c] at h
    rcases List.mem_cons.1 h with rfl | h
    · simp
    · rcases ih h with h | h
      · exact .inl h
      · exact .inr (by simp [h])

theorem mrg_rise {w p : List Nat} (hw : Rise w) (hp : Rise p) : Rise (mrg w p) := by
  unfold Rise at *
  induction w, p using mrg.induct with
  | case1 p => simpa [mrg] using hp
  | case2 a w => simpa [mrg] using hw
  | case3 a w b p c ih =>
    simp only [mrg, if_pos c]
    obtain ⟨h1, h2⟩ := List.pairwise_cons.1 hw
    refine List.pairwise_cons.2 ⟨fun x hx => ?_, ih h2 hp⟩
    rcases mrg_mem hx with h | h
    · exact h1 x h
    · rcases List.mem_cons.1 h with rfl | h
      · exact c
      · exact Nat.le_trans c ((List.pairwise_cons.1 hp).1 x h)
  | case4 a w b p c ih =>
    simp only [mrg, if_neg c]
    obtain ⟨h1, h2⟩ := List.pairwise_cons.1 hp
    refine List.pairwise_cons.2 ⟨fun x hx => ?_, ih hw h2⟩
    rcases mrg_mem hx with h | h
    · rcases List.mem_cons.1 h with rfl | h
      · omega
      · have := (List.pairwise_cons.1 hw).1 x h; omega
    · exact h1 x h

theorem pks_mem {l : List Nat} {x : Nat} (h : x ∈ pks l) : ∃ a b, a ∈ l ∧ b ∈ l ∧ x = a + b := by
  induction l using pks.induct with
  | case1 a b r ih =>
    simp only [pks] at h
    rcases List.mem_cons.1 h with rfl | h
    · exact ⟨a, b, by simp, by simp, rfl⟩
    · obtain ⟨c, d, h1, h2, rfl⟩ := ih h
      exact ⟨c, d, by simp [h1], by simp [h2], rfl⟩
  | case2 l hl => simp [pks] at h

theorem pks_rise {l : List Nat} (h : Rise l) : Rise (pks l) := by
  unfold Rise at *
  induction l using pks.induct with
  | case1 a b r ih =>
    simp only [pks]
    obtain ⟨h1, h2⟩ := List.pairwise_cons.1 h
    obtain ⟨h3, h4⟩ := List.pairwise_cons.1 h2
    refine List.pairwise_cons.2 ⟨fun x hx => ?_, ih h4⟩
    obtain ⟨c, d, hc, hd, rfl⟩ := pks_mem hx
    have := h1 c (by simp [hc])
    have := h3 d hd
    omega
  | case2 l hl => simp [pks]

theorem pks_len (l : List Nat) : (pks l).length = l.length / 2 := by
  induction l using pks.induct with
  | case1 a b r ih => simp only [pks, List.length_cons, ih]; omega
  | case2 l hl =>
    match l, hl with
    | [], _ => rfl
    | [a], _ => simp [pks]
    | a :: b :: r, hl => exact absurd rfl (hl a b r)

theorem pks_sum (l : List Nat) (p : Nat) (h : 2 * p ≤ l.length) : ((pks l).take p).sum = (l.take (2 * p)).sum := by
  induction l using pks.induct generalizing p with
  | case1 a b r ih =>
    cases p with
    | zero => rfl
    | succ p =>
      simp only [List.length_cons] at h
      have := ih p (by omega)
      rw [show 2 * (p + 1) = (2 * p + 1) + 1 by omega]
      simp only [pks, List.take_succ_cons, List.sum_cons, this]
      omega
  | case2 l hl =>
    match l, hl with
    | [], _ => simp [pks]
    | [a], _ => simp at h; obtain rfl : p = 0 := by omega
                rfl
    | a :: b :: r, hl => exact absurd rfl (hl a b r)

theorem take_light {x : Nat} {p : List Nat} (hx : ∀ y ∈ p, x ≤ y) {m : Nat} (h : m < p.length) : x + (p.take m).sum ≤ (p.take (m + 1)).sum := by
  rw [List.take_succ_eq_append_getElem h, List.sum_append]
  have := hx p[m] (List.getElem_mem h)
  simp
  omega

theorem take_le {l : List Nat} {m n : Nat} (h : m ≤ n) : (l.take m).sum ≤ (l.take n).sum := by
  have : l.take n = l.take m ++ (l.take n).drop m := by
    have e := (List.take_append_drop m (l.take n)).symm
    rwa [List.take_take, Nat.min_eq_left h] at e
  rw [this, List.sum_append]
  omega

theorem mrg_least {w p : List Nat} (hw : Rise w) (hp : Rise p) {m c q : Nat} (hm : c + q = m) (hc : c ≤ w.length) (hq : q ≤ p.length) : ((mrg w p).take m).sum ≤ (w.take c).sum + (p.take q).sum := by
  induction w, p using mrg.induct generalizing m c q with
  | case1 p =>
    simp at hc; subst hc
    simp only [mrg]
    obtain rfl : q = m := by omega
    simp
  | case2 a w =>
    simp at hq; subst hq
    simp only [mrg]
    obtain rfl : c = m := by omega
    simp
  | case3 a w b p h ih =>
    obtain ⟨h1, h2⟩ := List.pairwise_cons.1 hw
    cases m with
    | zero => simp
    | succ m =>
      simp only [mrg, if_pos h, List.take_succ_cons, List.sum_cons]
      cases c with
      | succ c =>
        have := ih h2 hp (m := m) (c := c) (q := q) (by omega) (by simp at hc; omega) hq
        simp only [List.take_succ_cons, List.sum_cons]
        omega
      | zero =>
        obtain rfl : q = m + 1 := by omega
        have := ih h2 hp (m := m) (c := 0) (q := m) (by omega) (by omega) (by omega)
        have h3 := take_light (x := a) (p := b :: p) (fun y hy => by
          rcases List.mem_cons.1 hy with rfl | hy
          · exact h
          · exact Nat.le_trans h ((List.pairwise_cons.1 hp).1 y hy)) (m := m) (by omega)
        simp only [List.take_zero, List.sum_nil] at this ⊢
        omega
  | case4 a w b p h ih =>
    obtain ⟨h1, h2⟩ := List.pairwise_cons.1 hp
    cases m with
    | zero => simp
    | succ m =>
      simp only [mrg, if_neg h, List.take_succ_cons, List.sum_cons]
      cases q with
      | succ q =>
        have := ih hw h2 (m := m) (c := c) (q := q) (by omega) hc (by simp at hq; omega)
        simp only [List.take_succ_cons, List.sum_cons]
        omega
      | zero =>
        obtain rfl : c = m + 1 := by omega
        have := ih hw h2 (m := m) (c := m) (q := 0) (by omega) (by omega) (by omega)
        have h3 := take_light (x := b) (p := a :: w) (fun y hy => by
          rcases List.mem_cons.1 hy with rfl | hy
          · omega
          · have := (List.pairwise_cons.1 hw).1 y hy; omega) (m := m) (by omega)
        simp only [List.take_zero, List.sum_nil] at this ⊢
        omega

def row (w : List Nat) : Nat → List Nat
  | 0 => []
  | k + 1 => mrg w (pks (row w k))

theorem row_rise {w : List Nat} (hw : Rise w) (k : Nat) : Rise (row w k) := by
  induction k with
  | zero => exact List.Pairwise.nil
  | succ k ih => exact mrg_rise hw (pks_rise ih)

theorem row_len (w : List Nat) (k : Nat) : (row w (k + 1)).length = w.length + (row w k).length / 2 := by
  simp only [row, mrg_len, pks_len]

def wth : List Nat → Nat
  | [] => 0
  | c :: cs => c * 2 ^ cs.length + wth cs

def lvc (w : List Nat) (cs : List Nat) : Nat := (cs.map fun c => (w.take c).sum).sum

theorem pkg_bound {w : List Nat} (hw : Rise w) (cs : List Nat) (hc : ∀ c ∈ cs, c ≤ w.length) (m : Nat) (hm : m * 2 ^ cs.length ≤ 2 * wth cs) : m ≤ (row w cs.length).length ∧ ((row w cs.length).take m).sum ≤ lvc w cs := by
  induction cs generalizing m with
  | nil =>
    simp [wth] at hm
    subst hm
    exact ⟨Nat.zero_le _, by simp⟩
  | cons c cs ih =>
    have hcw := hc c (by simp)
    simp only [wth, List.length_cons, Nat.pow_succ] at hm
    -- m * 2^len ≤ c * 2^len + wth cs
    have h1 : m * 2 ^ cs.length ≤ c * 2 ^ cs.length + wth cs := by
      rw [← Nat.mul_assoc] at hm
      omega
    obtain ⟨q, hq⟩ : ∃ q, q = m - c := ⟨_, rfl⟩
    have h2 : q * 2 ^ cs.length ≤ wth cs := by
      rw [hq, Nat.sub_mul]
      omega
    obtain ⟨i1, i2⟩ := ih (fun x hx => hc x (by simp [hx])) (2 * q) (by rw [Nat.mul_assoc]; omega)
    have hl := row_len w cs.length
    have hml : m ≤ (row w (cs.length + 1)).length := by omega
    refine ⟨hml, ?_⟩
    obtain ⟨d, hd⟩ : ∃ d, d = m - q := ⟨_, rfl⟩
    have h3 := mrg_least hw (pks_rise (row_rise hw cs.length)) (m := m) (c := d) (q := q) (by omega) (by omega) (by rw [pks_len]; omega)
    rw [pks_sum _ _ i1] at h3
    have h4 : (w.take d).sum ≤ (w.take c).sum := take_le (by omega)
    show ((mrg w (pks (row w cs.length))).take m).sum ≤ lvc w (c :: cs)
    have h5 : lvc w (c :: cs) = (w.take c).sum + lvc w cs := by simp [lvc]
    omega

theorem sub_least {v w : List Nat} (h : v.Sublist w) (hw : Rise w) : (w.take v.length).sum ≤ v.sum := by
  induction h with
  | slnil => simp
  | @cons v w x h ih =>
    obtain ⟨h1, h2⟩ := List.pairwise_cons.1 hw
    have h3 := ih h2
    have hl := h.length_le
    cases hv : v.length with
    | zero => simp
    | succ n =>
      rw [hv] at h3 hl
      have := take_light h1 (m := n) (by omega)
      simp only [List.take_succ_cons, List.sum_cons]
      omega
  | @cons_cons v w x h ih =>
    have h3 := ih (List.pairwise_cons.1 hw).2
    simp only [List.length_cons, List.take_succ_cons, List.sum_cons]
    omega

def lev (P : List (Nat × Nat)) (j : Nat) : List Nat := (P.filter fun x => decide (j ≤ x.2)).map (·.1)

def levs (P : List (Nat × Nat)) : Nat → Nat → List Nat
  | _, 0 => []
  | j, k + 1 => (lev P j).length :: levs P (j + 1) k

theorem levs_len (P : List (Nat × Nat)) (j k : Nat) : (levs P j k).length = k := by induction k generalizing j with
  | zero => rfl
  | succ k ih => simp [levs, ih]

theorem levs_le (P : List (Nat × Nat)) (j k : Nat) : ∀ c ∈ levs P j k, c ≤ P.length := by
  induction k generalizing j with
  | zero => simp [levs]
  | succ k ih =>
    intro c hc
    simp only [levs] at hc
    rcases List.mem_cons.1 hc with rfl | hc
    · unfold lev; rw [List.length_map]; exact List.length_filter_le _ _
    · exact ih _ c hc

theorem lev_sub (P : List (Nat × Nat)) (j : Nat) : (lev P j).Sublist (P.map (·.1)) := List.Sublist.map _ List.filter_sublist

def lps (P : List (Nat × Nat)) : Nat → Nat → Nat
  | _, 0 => 0
  | j, k + 1 => (lev P j).sum + lps P (j + 1) k

theorem lvc_le {P : List (Nat × Nat)} (hw : Rise (P.map (·.1))) (j k : Nat) : lvc (P.map (·.1)) (levs P j k) ≤ lps P j k := by
  induction k generalizing j with
  | zero => simp [levs, lvc, lps]
  | succ k ih =>
    have h1 := sub_least (lev_sub P j) hw
    have h2 := ih (j + 1)
    simp only [levs, lvc, lps, List.map_cons, List.sum_cons] at h2 ⊢
    omega

theorem lev_cons (x : Nat × Nat) (P : List (Nat × Nat)) (j : Nat) : lev (x :: P) j = if j ≤ x.2 then x.1 :: lev P j else lev P j := by
  unfold lev
  by_cases h : j ≤ x.2
  · rw [List.filter_cons_of_pos (by simpa using h), if_pos h]; rfl
  · rw [List.filter_cons_of_neg (by simpa using h), if_neg h]

theorem lps_cons (x : Nat × Nat) (P : List (Nat × Nat)) (j k : Nat) : lps (x :: P) j k = x.1 * (min (x.2 + 1 - j) k) + lps P j k := by
  induction k generalizing j with
  | zero => simp [lps]
  | succ k ih =>
    simp only [lps, lev_cons, ih]
    by_cases h : j ≤ x.2
    · rw [if_pos h, List.sum_cons, show min (x.2 + 1 - j) (k + 1) = min (x.2 + 1 - (j + 1)) k + 1 by omega, Nat.mul_add]
      omega
    · rw [if_neg h, show min (x.2 + 1 - j) (k + 1) = 0 by omega, show min (x.2 + 1 - (j + 1)) k = 0 by omega]
      omega

theorem wth_cons (x : Nat × Nat) (P : List (Nat × Nat)) (j k : Nat) (hj : 1 ≤ j) (hx : x.2 + 1 ≤ j + k) : wth (levs (x :: P) j k) + (if j ≤ x.2 then 2 ^ (j + k - 1 - x.2) else 2 ^ k) = 2 ^ k + wth (levs P j k) := by
  induction k generalizing j with
  | zero =>
    simp only [levs, wth]
    by_cases h : j ≤ x.2
    · omega
    · rw [if_neg h]
  | succ k ih =>
    simp only [levs, wth, levs_len, lev_cons]
    have := ih (j + 1) (by omega) (by omega)
    by_cases h : j ≤ x.2
    · rw [if_pos h, if_pos h, List.length_cons, Nat.add_mul, Nat.pow_succ]
      by_cases h2 : j + 1 ≤ x.2
      · rw [if_pos h2] at this
        rw [show j + (k + 1) - 1 - x.2 = j + 1 + k - 1 - x.2 by omega]
        omega
      · rw [if_neg h2] at this
        have : x.2 = j := by omega
        rw [show j + (k + 1) - 1 - x.2 = k by omega]
        omega
    · rw [if_neg h, if_neg h]
      rw [if_neg (by omega)] at this
      rw [Nat.pow_succ]
      omega

theorem kraft_wth (L : Nat) (P : List (Nat × Nat)) (h : ∀ x ∈ P, x.2 ≤ L) : wth (levs P 1 L) + (P.map fun x => 2 ^ (L - x.2)).sum = P.length * 2 ^ L := by
  induction P with
  | nil =>
    have : ∀ j k, wth (levs ([] : List (Nat × Nat)) j k) = 0 := fun j k => by
      induction k generalizing j with
      | zero => rfl
      | succ k ih => simp [levs, wth, lev, ih]
    simp [this]
  | cons x P ih =>
    have h1 := ih fun y hy => h y (by simp [hy])
    have h2 := wth_cons x P 1 L (Nat.le_refl _) (by have := h x (by simp); omega)
    simp only [List.map_cons, List.sum_cons, List.length_cons, Nat.add_mul]
    have hx := h x (by simp)
    by_cases c : 1 ≤ x.2
    · rw [if_pos c, show 1 + L - 1 - x.2 = L - x.2 by omega] at h2
      omega
    · rw [if_neg c] at h2
      have : x.2 = 0 := by omega
      rw [this]
      simp only [Nat.sub_zero]
      omega

theorem lps_prc (L : Nat) (P : List (Nat × Nat)) (h : ∀ x ∈ P, x.2 ≤ L) : lps P 1 L = (P.map fun x => x.1 * x.2).sum := by
  induction P with
  | nil =>
    have : ∀ j k, lps ([] : List (Nat × Nat)) j k = 0 := fun j k => by
      induction k generalizing j with
      | zero => rfl
      | succ k ih => simp [lps, lev, ih]
    simp [this]
  | cons x P ih =>
    rw [lps_cons, ih fun y hy => h y (by simp [hy])]
    have := h x (by simp)
    rw [show min (x.2 + 1 - 1) L = x.2 by omega]
    simp

theorem coins (L : Nat) (P : List (Nat × Nat)) (hw : Rise (P.map (·.1))) (h : ∀ x ∈ P, x.2 ≤ L) (hk : (P.map fun x => 2 ^ (L - x.2)).sum ≤ 2 ^ L) :
    ((row (P.map (·.1)) L).take (2 * (P.length - 1))).sum ≤ (P.map fun x => x.1 * x.2).sum := by
  have h1 := kraft_wth L P h
  have h2 := pkg_bound hw (levs P 1 L) (fun c hc => by rw [List.length_map]; exact levs_le P 1 L c hc) (2 * (P.length - 1)) (by
    rw [levs_len, Nat.mul_assoc]
    apply Nat.mul_le_mul_left
    rw [Nat.sub_mul]
    omega)
  rw [levs_len] at h2
  exact Nat.le_trans h2.2 (Nat.le_trans (lvc_le hw 1 L) (Nat.le_of_eq (lps_prc L P h)))
end Go.Proofs.YtkmefeihkmbngaaDoor

namespace Go.Proofs.YtkmefeihkmbngaaDoor

/-! Huffman's theorem, in numbers: rows of pairs (weight, length); Kraft's sum in parts of 2^-N. -/

def prc (P : List (Nat × Nat)) : Nat := (P.map fun x => x.1 * x.2).sum
def krf (N : Nat) (P : List (Nat × Nat)) : Nat := (P.map fun x => 2 ^ (N - x.2)).sum

theorem perm_sum {α : Type} (f : α → Nat) {P Q : List α} (h : P.Perm Q) : (P.map f).sum = (Q.map f).sum := by
  induction h with
  | nil => rfl
  | cons _ _ ih => simp [ih]
  | swap _ _ _ => simp; omega
  | trans _ _ i1 i2 => rw [i1, i2]

inductive Huff : List Nat → Nat → Prop
  | one (w : Nat) : Huff [w] 0
  | join {ws : List Nat} (a b : Nat) (rest : List Nat) (c : Nat) : ws.Perm (a :: b :: rest) → a ≤ b → (∀ x ∈ rest, b ≤ x) → Huff ((a + b) :: rest) c → Huff ws (c + (a + b))

end Go.Proofs.YtkmefeihkmbngaaDoor

namespace Go.Proofs.YtkmefeihkmbngaaDoor

/-! Huffman's joining: what the lengths are behind it. A node: its weight, and the symbols that it holds. -/

def fb : Nat → Nat
  | 0 => 1
  | 1 => 1
  | n + 2 => fb (n + 1) + fb n

theorem fb_pos (n : Nat) : 1 ≤ fb n := by
  induction n using fb.induct with
  | case1 => exact Nat.le_refl _
  | case2 => exact Nat.le_refl _
  | case3 n h1 h2 => simp only [fb]; omega

abbrev Nod := Nat × List Nat

def syms (row : List Nod) : List Nat := row.flatMap (·.2)
def fl (f len : Nat → Nat) (l : List Nat) : Nat := (l.map fun s => f s * len s).sum
def kr (len : Nat → Nat) (l : List Nat) : Nat := (l.map fun s => 2 ^ (60 - len s)).sum

def Deep (len : Nat → Nat) (row : List Nod) (n : Nod) : Prop :=
  ∃ h, (∀ s ∈ n.2, len s ≤ h) ∧ fb (h + 1) ≤ n.1 ∧ (h ≤ 60 → kr len n.2 = 2 ^ 60) ∧ (h = 0 ∨ ∃ m, fb h ≤ m ∧ ∀ n' ∈ row, n' ≠ n → m ≤ n'.1)

structure Forest (f len : Nat → Nat) (row : List Nod) : Prop where
  nd : (syms row).Nodup
  ne : ∀ n ∈ row, n.2 ≠ []
  sum : ∀ n ∈ row, n.1 = (n.2.map f).sum
  deep : ∀ n ∈ row, Deep len row n

theorem syms_perm {r r' : List Nod} (h : r.Perm r') : (syms r).Perm (syms r') := h.flatMap_right _

theorem Forest.perm {f len : Nat → Nat} {r r' : List Nod} (h : Forest f len r) (hp : r.Perm r') : Forest f len r' := by
  refine ⟨(syms_perm hp).nodup_iff.1 h.nd, fun n hn => h.ne n (hp.symm.subset hn), fun n hn => h.sum n (hp.symm.subset hn), fun n hn => ?_⟩
  obtain ⟨d, h1, h2, h3, h4⟩ := h.deep n (hp.symm.subset hn)
  refine ⟨d, h1, h2, h3, ?_⟩
  rcases h4 with h4 | ⟨m, h5, h6⟩
  · exact .inl h4
  · exact .inr ⟨m, h5, fun n' hn' => h6 n' (hp.symm.subset hn')⟩

def bmp (len : Nat → Nat) (hs : List Nat) : Nat → Nat := fun s => if s ∈ hs then len s + 1 else len s

theorem bmp_in {len : Nat → Nat} {hs : List Nat} {s : Nat} (h : s ∈ hs) : bmp len hs s = len s + 1 := if_pos h
theorem bmp_out {len : Nat → Nat} {hs : List Nat} {s : Nat} (h : s ∉ hs) : bmp len hs s = len s := if_neg h

theorem map_sum_congr {α : Type} {f g : α → Nat} {l : List α} (h : ∀ x ∈ l, f x = g x) : (l.map f).sum = (l.map g).sum := by rw [List.map_congr_left h]

theorem kr_out {len : Nat → Nat} {hs l : List Nat} (h : ∀ s ∈ l, s ∉ hs) : kr (bmp len hs) l = kr len l := map_sum_congr fun s hs' => by rw [bmp_out (h s hs')]

theorem kr_bmp {len : Nat → Nat} {hs : List Nat} (h : ∀ s ∈ hs, len s + 1 ≤ 60) : 2 * kr (bmp len hs) hs = kr len hs := by
  have e : kr (bmp len hs) hs = (hs.map fun s => 2 ^ (60 - (len s + 1))).sum := map_sum_congr fun s hs' => by rw [bmp_in hs']
  rw [e]
  unfold kr
  clear e
  induction hs with
  | nil => rfl
  | cons a l ih =>
    have h1 := ih fun s hs => h s (by simp [hs])
    have h2 := h a (by simp)
    simp only [List.map_cons, List.sum_cons]
    have : 2 ^ (60 - len a) = 2 * 2 ^ (60 - (len a + 1)) := by rw [show 60 - len a = (60 - (len a + 1)) + 1 by omega, Nat.pow_succ, Nat.mul_comm]
    omega

theorem Forest.join {f len : Nat → Nat} {x y : Nod} {rest : List Nod} {hs : List Nat} (F : Forest f len (x :: y :: rest)) (hxy : x.1 ≤ y.1) (hr : ∀ r ∈ rest, y.1 ≤ r.1) (hh : hs.Perm (x.2 ++ y.2)) : Forest f (bmp len hs) ((x.1 + y.1, hs) :: rest) := by
  have hnd := F.nd
  have hs1 : syms (x :: y :: rest) = x.2 ++ (y.2 ++ syms rest) := by simp [syms]
  rw [hs1, ← List.append_assoc] at hnd
  have hnd2 : (hs ++ syms rest).Nodup := ((hh.append_right (syms rest)).nodup_iff).2 hnd
  obtain ⟨d1, d2, d3⟩ := List.nodup_append.1 hnd2
  have hmem : ∀ s, s ∈ hs ↔ s ∈ x.2 ∨ s ∈ y.2 := fun s => by rw [hh.mem_iff, List.mem_append]
  have hrs : ∀ n ∈ rest, ∀ s ∈ n.2, s ∉ hs := fun n hn s hs' hm => d3 s hm s (List.mem_flatMap.2 ⟨n, hn, hs'⟩) rfl
  obtain ⟨hx, Dx1, Dx2, Dx3, Dx4⟩ := F.deep x (by simp)
  obtain ⟨hy, Dy1, Dy2, Dy3, Dy4⟩ := F.deep y (by simp)
  have nx := F.ne x (by simp)
  have ny := F.ne y (by simp)
  have hne : x ≠ y := fun e => by
    obtain ⟨s, hs'⟩ := List.exists_mem_of_ne_nil _ nx
    have h0 := (List.nodup_append.1 (List.nodup_append.1 hnd).1).2.2 s hs' s (by rw [← e]; exact hs') 
    exact h0 rfl
  have hrx : ∀ n ∈ rest, n ≠ x := fun n hn e => by
    obtain ⟨s, hs'⟩ := List.exists_mem_of_ne_nil _ nx
    exact hrs n hn s (by rw [e]; exact hs') ((hmem s).2 (.inl hs'))
  have hsum : (hs.map f).sum = x.1 + y.1 := by
    rw [perm_sum f hh, List.map_append, List.sum_append, ← F.sum x (by simp), ← F.sum y (by simp)]
  refine ⟨by simpa [syms] using hnd2, ?_, ?_, ?_⟩
  · intro n hn
    rcases List.mem_cons.1 hn with rfl | hn
    · intro e
      have : hs = [] := e
      rw [this] at hh
      have := hh.length_eq
      simp at this
      exact nx (List.eq_nil_of_length_eq_zero (by omega))
    · exact F.ne n (by simp [hn])
  · intro n hn
    rcases List.mem_cons.1 hn with rfl | hn
    · exact hsum.symm
    · exact F.sum n (by simp [hn])
  · intro n hn
    rcases List.mem_cons.1 hn with rfl | hn
    · refine ⟨max hx hy + 1, ?_, ?_, ?_, .inr ⟨y.1, ?_, ?_⟩⟩
      · intro s hs'
        rw [bmp_in hs']
        rcases (hmem s).1 hs' with h | h
        · have := Dx1 s h; omega
        · have := Dy1 s h; omega
      · show fb (max hx hy + 1 + 1) ≤ x.1 + y.1
        simp only [fb]
        by_cases c : hy ≤ hx
        · rw [Nat.max_eq_left c]
          rcases Dx4 with h0 | ⟨m, m1, m2⟩
          · subst h0
            have e0 : fb (0 + 1) = 1 := rfl
            have e1 : fb 0 = 1 := rfl
            have := fb_pos (hy + 1)
            omega
          · have := m2 y (by simp) (fun e => hne e.symm)
            omega
        · rw [Nat.max_eq_right (by omega)]
          rcases Dy4 with h0 | ⟨m, m1, m2⟩
          · omega
          · have := m2 x (by simp) hne
            omega
      · intro hm
        have h1 : kr len hs = kr len x.2 + kr len y.2 := by
          unfold kr
          rw [perm_sum _ hh, List.map_append, List.sum_append]
        have h2 := kr_bmp (len := len) (hs := hs) (fun s hs' => by
          rcases (hmem s).1 hs' with h | h
          · have := Dx1 s h; omega
          · have := Dy1 s h; omega)
        rw [h1, Dx3 (by omega), Dy3 (by omega)] at h2
        show kr (bmp len hs) hs = 2 ^ 60
        omega
      · by_cases c : hy ≤ hx
        · rw [Nat.max_eq_left c]; omega
        · rw [Nat.max_eq_right (by omega)]; exact Dy2
      · intro n' hn' hne'
        rcases List.mem_cons.1 hn' with rfl | hn'
        · exact absurd rfl hne'
        · exact hr n' hn'
    · obtain ⟨h, D1, D2, D3, D4⟩ := F.deep n (by simp [hn])
      refine ⟨h, fun s hs' => by rw [bmp_out (hrs n hn s hs')]; exact D1 s hs', D2, fun h6 => by rw [kr_out (hrs n hn)]; exact D3 h6, ?_⟩
      rcases D4 with h0 | ⟨m, m1, m2⟩
      · exact .inl h0
      · refine .inr ⟨m, m1, fun n' hn' hne' => ?_⟩
        rcases List.mem_cons.1 hn' with rfl | hn'
        · have := m2 x (by simp) (fun e => hrx n hn e.symm)
          show m ≤ x.1 + y.1
          omega
        · exact m2 n' (by simp [hn']) hne'

theorem Huff.perm {ws vs : List Nat} {c : Nat} (h : Huff ws c) (hp : ws.Perm vs) : Huff vs c := by
  cases h with
  | one w =>
    have : vs = [w] := List.perm_singleton.1 hp.symm
    subst this
    exact .one w
  | join a b rest c h1 h2 h3 h4 => exact .join a b rest c (hp.symm.trans h1) h2 h3 h4

end Go.Proofs.YtkmefeihkmbngaaDoor

namespace Go.Proofs.YtkmefeihkmbngaaDoor

/-! Package-merge: what the lengths are behind it. -/

def npk : List Nod → List Nod
  | a :: b :: r => (a.1 + b.1, a.2 ++ b.2) :: npk r
  | _ => []

def nmg : List Nod → List Nod → List Nod
  | [], p => p
  | a :: w, [] => a :: w
  | a :: w, b :: p => if a.1 ≤ b.1 then a :: nmg w (b :: p) else b :: nmg (a :: w) p
termination_by w p => w.length + p.length

def nrow (w : List Nod) : Nat → List Nod
  | 0 => []
  | k + 1 => nmg w (npk (nrow w k))

theorem npk_fst (l : List Nod) : (npk l).map (·.1) = pks (l.map (·.1)) := by
  induction l using npk.induct with
  | case1 a b r ih => simp [npk, pks, ih]
  | case2 l hl =>
    match l, hl with
    | [], _ => rfl
    | [a], _ => rfl
    | a :: b :: r, hl => exact absurd rfl (hl a b r)

theorem nmg_fst (w p : List Nod) : (nmg w p).map (·.1) = mrg (w.map (·.1)) (p.map (·.1)) := by
  induction w, p using nmg.induct with
  | case1 p => simp [nmg, mrg]
  | case2 a w => simp [nmg, mrg]
  | case3 a w b p h ih =>
    simp only [nmg, if_pos h, List.map_cons, mrg]
    rw [ih]; simp
  | case4 a w b p h ih =>
    simp only [nmg, if_neg h, List.map_cons, mrg]
    rw [ih]; simp

theorem nrow_fst (w : List Nod) (k : Nat) : (nrow w k).map (·.1) = row (w.map (·.1)) k := by
  induction k with
  | zero => rfl
  | succ k ih => simp only [nrow, row, nmg_fst, npk_fst, ih]

theorem cnt_nil (w : List Nat) (m : Nat) (h : m ≤ w.length) : cnt w [] m = m := by
  induction w generalizing m with
  | nil => simp at h; subst h; simp [cnt]
  | cons a w ih =>
    cases m with
    | zero => simp [cnt]
    | succ m => simp only [cnt]; rw [ih m (by simpa using h)]

theorem nmg_take (w p : List Nod) (m : Nat) (h : m ≤ w.length + p.length) : ((nmg w p).take m).Perm (w.take (cnt (w.map (·.1)) (p.map (·.1)) m) ++ p.take (m - cnt (w.map (·.1)) (p.map (·.1)) m)) ∧ cnt (w.map (·.1)) (p.map (·.1)) m ≤ w.length ∧ cnt (w.map (·.1)) (p.map (·.1)) m ≤ m ∧ m - cnt (w.map (·.1)) (p.map (·.1)) m ≤ p.length := by
  induction w, p using nmg.induct generalizing m with
  | case1 p =>
    have e : cnt (([] : List Nod).map (·.1)) (p.map (·.1)) m = 0 := by cases m <;> simp [cnt]
    rw [e]
    simp only [nmg, List.length_nil, Nat.zero_add] at h ⊢
    exact ⟨by simp, Nat.le_refl _, Nat.zero_le _, by simpa using h⟩
  | case2 a w =>
    have e : cnt ((a :: w).map (·.1)) (([] : List Nod).map (·.1)) m = m := cnt_nil _ m (by simpa using h)
    rw [e]
    simp only [nmg]
    exact ⟨by simp, by simpa using h, Nat.le_refl _, by simp⟩
  | case3 a w b p c ih =>
    cases m with
    | zero => simp [cnt]
    | succ m =>
      obtain ⟨i1, i2, i3, i4⟩ := ih m (by simp at h ⊢; omega)
      have e : cnt ((a :: w).map (·.1)) ((b :: p).map (·.1)) (m + 1) = cnt (w.map (·.1)) ((b :: p).map (·.1)) m + 1 := by simp [cnt, c]
      rw [e]
      simp only [nmg, if_pos c, List.take_succ_cons, List.cons_append, Nat.add_sub_add_right]
      refine ⟨(List.perm_cons a).2 i1, by simpa using i2, by omega, i4⟩
  | case4 a w b p c ih =>
    cases m with
    | zero => simp [cnt]
    | succ m =>
      obtain ⟨i1, i2, i3, i4⟩ := ih m (by simp at h ⊢; omega)
      have e : cnt ((a :: w).map (·.1)) ((b :: p).map (·.1)) (m + 1) = cnt ((a :: w).map (·.1)) (p.map (·.1)) m := by simp [cnt, c]
      rw [e]
      simp only [nmg, if_neg c, List.take_succ_cons]
      refine ⟨?_, i2, by omega, by rw [List.length_cons]; omega⟩
      rw [show m + 1 - cnt ((a :: w).map (·.1)) (p.map (·.1)) m = (m - cnt ((a :: w).map (·.1)) (p.map (·.1)) m) + 1 by omega, List.take_succ_cons]
      exact ((List.perm_cons b).2 i1).trans List.perm_middle.symm

theorem npk_syms (l : List Nod) (q : Nat) (h : 2 * q ≤ l.length) : syms ((npk l).take q) = syms (l.take (2 * q)) := by
  induction l using npk.induct generalizing q with
  | case1 a b r ih =>
    cases q with
    | zero => rfl
    | succ q =>
      simp only [List.length_cons] at h
      have := ih q (by omega)
      rw [show 2 * (q + 1) = (2 * q + 1) + 1 by omega]
      simp only [npk, List.take_succ_cons, syms, List.flatMap_cons, List.append_assoc] at this ⊢
      rw [this]
  | case2 l hl =>
    match l, hl with
    | [], _ => simp [npk]
    | [a], _ => simp at h; obtain rfl : q = 0 := by omega
                rfl
    | a :: b :: r, hl => exact absurd rfl (hl a b r)

def sel (w : List Nat) : Nat → Nat → List Nat
  | 0, _ => []
  | k + 1, m => cnt w (pks (row w k)) m :: sel w k (2 * (m - cnt w (pks (row w k)) m))

theorem sel_len (w : List Nat) (k m : Nat) : (sel w k m).length = k := by
  induction k generalizing m with
  | zero => rfl
  | succ k ih => simp [sel, ih]

theorem cnt_facts (w p : List Nat) (m : Nat) (h : m ≤ w.length + p.length) : ((mrg w p).take m).Perm (w.take (cnt w p m) ++ p.take (m - cnt w p m)) ∧ cnt w p m ≤ w.length ∧ cnt w p m ≤ m ∧ m - cnt w p m ≤ p.length := by
  have e : ∀ l : List Nat, (l.map fun x => ((x, []) : Nod)).map (·.1) = l := fun l => by simp [Function.comp_def]
  have := nmg_take (w.map fun x => (x, [])) (p.map fun x => (x, [])) m (by simpa using h)
  rw [e, e] at this
  obtain ⟨h1, h2, h3, h4⟩ := this
  refine ⟨?_, by simpa using h2, h3, by simpa using h4⟩
  have h5 := h1.map (·.1)
  rw [List.map_take, nmg_fst, e, e, List.map_append, List.map_take, List.map_take, e, e] at h5
  exact h5

theorem sel_facts {w : List Nat} (k m : Nat) (hm : m ≤ (row w k).length) : (∀ c ∈ sel w k m, c ≤ w.length) ∧ 2 * wth (sel w k m) = m * 2 ^ k ∧ ((row w k).take m).sum = lvc w (sel w k m) := by
  induction k generalizing m with
  | zero =>
    simp [row] at hm
    subst hm
    simp [sel, wth, lvc]
  | succ k ih =>
    have hl := row_len w k
    obtain ⟨c1, c2, c3, c4⟩ := cnt_facts w (pks (row w k)) m (by rw [pks_len]; omega)
    rw [pks_len] at c4
    obtain ⟨c, hc⟩ : ∃ c, c = cnt w (pks (row w k)) m := ⟨_, rfl⟩
    rw [← hc] at c1 c2 c3 c4
    obtain ⟨i1, i2, i3⟩ := ih (2 * (m - c)) (by omega)
    simp only [sel]
    rw [← hc]
    refine ⟨?_, ?_, ?_⟩
    · intro x hx
      rcases List.mem_cons.1 hx with rfl | hx
      · exact c2
      · exact i1 x hx
    · simp only [wth, sel_len, Nat.mul_add, i2, Nat.pow_succ]
      have e1 : 2 * (m - c) * 2 ^ k = 2 * ((m - c) * 2 ^ k) := Nat.mul_assoc ..
      have e2 : m * (2 ^ k * 2) = 2 * (m * 2 ^ k) := by rw [← Nat.mul_assoc]; omega
      have e3 : (m - c) * 2 ^ k + c * 2 ^ k = m * 2 ^ k := by rw [← Nat.add_mul, Nat.sub_add_cancel c3]
      omega
    · have s1 := perm_sum id c1
      simp only [List.map_id_fun, id_eq, List.sum_append] at s1
      rw [pks_sum _ _ (by omega), i3] at s1
      show ((mrg w (pks (row w k))).take m).sum = _
      rw [s1]
      simp [lvc]

theorem sel_syms (w : List Nod) (k m : Nat) (hm : m ≤ (nrow w k).length) : (syms ((nrow w k).take m)).Perm ((sel (w.map (·.1)) k m).flatMap fun c => syms (w.take c)) := by
  induction k generalizing m with
  | zero =>
    simp [nrow] at hm
    subst hm
    simp [sel, syms, nrow]
  | succ k ih =>
    have hk : (npk (nrow w k)).length = (nrow w k).length / 2 := by
      have := congrArg List.length (npk_fst (nrow w k))
      rw [pks_len] at this
      simpa using this
    have hl : (nrow w (k + 1)).length = w.length + (npk (nrow w k)).length := by
      have := congrArg List.length (nmg_fst w (npk (nrow w k)))
      rw [mrg_len] at this
      simpa [nrow] using this
    obtain ⟨c1, c2, c3, c4⟩ := nmg_take w (npk (nrow w k)) m (by omega)
    rw [npk_fst, nrow_fst] at c1 c2 c3 c4
    obtain ⟨c, hc⟩ : ∃ c, c = cnt (w.map (·.1)) (pks (row (w.map (·.1)) k)) m := ⟨_, rfl⟩
    simp only [sel]
    rw [← hc] at c1 c2 c3 c4 ⊢
    have h2 : 2 * (m - c) ≤ (nrow w k).length := by omega
    have h1 := syms_perm c1
    refine h1.trans ?_
    have e : syms (w.take c ++ (npk (nrow w k)).take (m - c)) = syms (w.take c) ++ syms ((npk (nrow w k)).take (m - c)) := by simp [syms]
    rw [e, npk_syms _ _ h2, List.flatMap_cons]
    exact List.Perm.append_left _ (ih _ h2)

theorem row_room (w : List Nat) (k t : Nat) (h : w.length ≤ t * 2 ^ k) : 2 * w.length ≤ (row w (k + 1)).length + t := by
  induction k generalizing t with
  | zero =>
    have := row_len w 0
    simp [row] at this h ⊢
    rw [mrg_len]
    simp [pks]
    omega
  | succ k ih =>
    have := ih (2 * t) (by rw [Nat.pow_succ] at h; rw [Nat.mul_assoc, Nat.mul_comm 2, Nat.mul_assoc]; exact h)
    have := row_len w (k + 1)
    omega

theorem cnt_ge {w p : List Nat} (hw : Rise w) (m q i : Nat) (hm : m ≤ w.length + p.length) (hq : q < m - cnt w p m) (hi : i < w.length) (h : w.getD i 0 ≤ p.getD q 0) : i < cnt w p m := by
  induction w, p using mrg.induct generalizing m q i with
  | case1 p => simp at hi
  | case2 a w =>
    rw [cnt_nil _ _ (by simpa using hm)] at hq
    omega
  | case3 a w b p c ih =>
    cases m with
    | zero => omega
    | succ m =>
      simp only [cnt, if_pos c] at hq ⊢
      cases i with
      | zero => omega
      | succ i =>
        have := ih (List.pairwise_cons.1 hw).2 m q i (by simp at hm ⊢; omega) (by omega) (by simpa using hi) (by simpa using h)
        omega
  | case4 a w b p c ih =>
    cases m with
    | zero => omega
    | succ m =>
      simp only [cnt, if_neg c] at hq ⊢
      cases q with
      | zero =>
        exfalso
        have hai : a ≤ (a :: w).getD i 0 := by
          cases i with
          | zero => simp
          | succ i =>
            simp only [List.getD_cons_succ]
            have hi' : i < w.length := by simpa using hi
            rw [List.getD_eq_getElem?_getD, List.getElem?_eq_getElem hi']
            exact (List.pairwise_cons.1 hw).1 _ (List.getElem_mem hi')
        rw [List.getD_cons_zero] at h
        omega
      | succ q =>
        have hq' : q < m - cnt (a :: w) p m := by
          have := (cnt_facts (a :: w) p m (by simp at hm ⊢; omega)).2.2.1
          omega
        exact ih hw m q i (by simp at hm ⊢; omega) hq' hi (by simpa using h)

theorem rise_last {l : List Nat} (h : Rise l) {n : Nat} (hn : n < l.length) {x : Nat} (hx : x ∈ l.take (n + 1)) : x ≤ l.getD n 0 := by
  rw [List.getD_eq_getElem?_getD, List.getElem?_eq_getElem hn]
  rw [List.take_succ_eq_append_getElem hn] at hx
  rcases List.mem_append.1 hx with hx | hx
  · obtain ⟨i, hi, rfl⟩ := List.getElem_of_mem hx
    rw [List.length_take] at hi
    simp only [List.getElem_take, Option.getD_some]
    exact List.pairwise_iff_getElem.1 h i n (by omega) hn (by omega)
  · simp at hx; subst hx; simp

theorem pks_get (l : List Nat) (q : Nat) (h : 2 * q + 1 < l.length) : (pks l).getD q 0 = l.getD (2 * q) 0 + l.getD (2 * q + 1) 0 := by
  induction l using pks.induct generalizing q with
  | case1 a b r ih =>
    cases q with
    | zero => simp [pks]
    | succ q =>
      have := ih q (by simp at h; omega)
      simp only [pks, List.getD_cons_succ, this]
      rw [show 2 * (q + 1) = (2 * q + 1) + 1 by omega]
      simp
  | case2 l hl =>
    match l, hl with
    | [], _ => simp at h
    | [a], _ => simp at h
    | a :: b :: r, hl => exact absurd rfl (hl a b r)

theorem sel_falls {w : List Nat} (hw : Rise w) (k m : Nat) (hm : m ≤ (row w k).length) : (sel w k m).Pairwise (· ≥ ·) := by
  induction k generalizing m with
  | zero => exact List.Pairwise.nil
  | succ k ih =>
    have hl := row_len w k
    obtain ⟨c1, c2, c3, c4⟩ := cnt_facts w (pks (row w k)) m (by rw [pks_len]; omega)
    rw [pks_len] at c4
    obtain ⟨c, hc⟩ : ∃ c, c = cnt w (pks (row w k)) m := ⟨_, rfl⟩
    have hq : 2 * (m - c) ≤ (row w k).length := by rw [hc]; omega
    have i1 := ih (2 * (m - c)) hq
    simp only [sel]
    rw [← hc]
    refine List.pairwise_cons.2 ⟨?_, i1⟩
    cases k with
    | zero => simp [sel]
    | succ k =>
      simp only [sel] at i1 ⊢
      have hl2 := row_len w k
      obtain ⟨d1, d2, d3, d4⟩ := cnt_facts w (pks (row w k)) (2 * (m - c)) (by rw [pks_len]; omega)
      obtain ⟨d, hd⟩ : ∃ d, d = cnt w (pks (row w k)) (2 * (m - c)) := ⟨_, rfl⟩
      rw [← hd] at i1 d1 d2 d3 ⊢
      have hdc : d ≤ c := by
        cases d with
        | zero => exact Nat.zero_le _
        | succ d =>
          have hq1 : 1 ≤ m - c := by omega
          have hmem : w.getD d 0 ∈ (row w (k + 1)).take (2 * (m - c) - 1 + 1) := by
            rw [show 2 * (m - c) - 1 + 1 = 2 * (m - c) by omega]
            refine d1.symm.subset (List.mem_append_left _ ?_)
            rw [List.getD_eq_getElem?_getD, List.getElem?_eq_getElem (show d < w.length by omega), Option.getD_some]
            rw [List.mem_iff_getElem]
            exact ⟨d, by rw [List.length_take]; omega, by simp⟩
          have h1 := rise_last (row_rise hw (k + 1)) (n := 2 * (m - c) - 1) (by omega) hmem
          have h2 := pks_get (row w (k + 1)) (m - c - 1) (by omega)
          rw [show 2 * (m - c - 1) + 1 = 2 * (m - c) - 1 by omega] at h2
          have h3 := cnt_ge (p := pks (row w (k + 1))) hw m (m - c - 1) d (by rw [pks_len]; omega) (by rw [← hc]; omega) (by omega) (by omega)
          rw [← hc] at h3
          omega
      intro x hx
      rcases List.mem_cons.1 hx with rfl | hx
      · exact hdc
      · exact Nat.le_trans ((List.pairwise_cons.1 i1).1 x hx) hdc

def ct (cs : List Nat) (i : Nat) : Nat := (cs.filter fun c => decide (i < c)).length

theorem ct_cons (c : Nat) (cs : List Nat) (i : Nat) : ct (c :: cs) i = (if i < c then 1 else 0) + ct cs i := by
  unfold ct
  by_cases h : i < c
  · rw [List.filter_cons_of_pos (by simpa using h), if_pos h, List.length_cons]; omega
  · rw [List.filter_cons_of_neg (by simpa using h), if_neg h]; omega

theorem ct_zero {cs : List Nat} {i : Nat} (h : ∀ c ∈ cs, c ≤ i) : ct cs i = 0 := by
  unfold ct
  rw [List.filter_eq_nil_iff.2 fun c hc => by have := h c hc; simp; omega]
  rfl

theorem ct_le (cs : List Nat) (i : Nat) : ct cs i ≤ cs.length := List.length_filter_le _ _

def sm (u : Nat) (g : Nat → Nat) : Nat := ((List.range u).map g).sum

theorem sm_succ (u : Nat) (g : Nat → Nat) : sm (u + 1) g = sm u g + g u := by simp [sm, List.range_succ]

theorem sm_congr {u : Nat} {g h : Nat → Nat} (e : ∀ i, i < u → g i = h i) : sm u g = sm u h := map_sum_congr fun i hi => e i (List.mem_range.1 hi)

theorem kr_sel (cs : List Nat) (hm : cs.Pairwise (· ≥ ·)) (u : Nat) (hu : ∀ c ∈ cs, c ≤ u) : sm u (fun i => 2 ^ (cs.length - ct cs i)) + wth cs = u * 2 ^ cs.length := by
  induction cs generalizing u with
  | nil =>
    have : ∀ u, sm u (fun i => 2 ^ (([] : List Nat).length - ct [] i)) = u := fun u => by
      induction u with
      | zero => rfl
      | succ u ih => rw [sm_succ, ih]; rfl
    rw [this]
    simp [wth]
  | cons c cs ih =>
    obtain ⟨h1, h2⟩ := List.pairwise_cons.1 hm
    have i1 := ih h2 c h1
    obtain ⟨e, rfl⟩ : ∃ e, u = c + e := ⟨u - c, by have := hu c (by simp); omega⟩
    have s1 : sm c (fun i => 2 ^ ((c :: cs).length - ct (c :: cs) i)) = sm c (fun i => 2 ^ (cs.length - ct cs i)) := sm_congr fun i hi => by
      rw [ct_cons, if_pos hi, List.length_cons]
      congr 1
      omega
    have s2 : ∀ e, sm (c + e) (fun i => 2 ^ ((c :: cs).length - ct (c :: cs) i)) = sm c (fun i => 2 ^ ((c :: cs).length - ct (c :: cs) i)) + e * 2 ^ (c :: cs).length := fun e => by
      induction e with
      | zero => simp
      | succ e ih2 =>
        rw [← Nat.add_assoc, sm_succ, ih2, ct_zero (fun x hx => by
          rcases List.mem_cons.1 hx with rfl | hx
          · omega
          · have := h1 x hx; omega), Nat.sub_zero, Nat.succ_mul]
        omega
    rw [s2, s1]
    simp only [wth, List.length_cons, Nat.pow_succ, Nat.add_mul] at i1 ⊢
    have e1 : c * (2 ^ cs.length * 2) = c * 2 ^ cs.length + c * 2 ^ cs.length := by rw [← Nat.mul_assoc]; omega
    omega

theorem sm_add (u : Nat) (g h : Nat → Nat) : sm u (fun i => g i + h i) = sm u g + sm u h := by
  induction u with
  | zero => rfl
  | succ u ih => rw [sm_succ, sm_succ, sm_succ, ih]; omega

theorem sm_take (w : List Nat) (c : Nat) (h : c ≤ w.length) : (w.take c).sum = sm c (fun i => w.getD i 0) := by
  induction c with
  | zero => simp [sm]
  | succ c ih =>
    rw [List.take_succ_eq_append_getElem (by omega), List.sum_append, ih (by omega), sm_succ]
    simp [List.getD, List.getElem?_eq_getElem (show c < w.length by omega)]

theorem sm_cut (u c : Nat) (g : Nat → Nat) (h : c ≤ u) : sm u (fun i => if i < c then g i else 0) = sm c g := by
  obtain ⟨e, rfl⟩ : ∃ e, u = c + e := ⟨u - c, by omega⟩
  clear h
  induction e with
  | zero => exact sm_congr fun i hi => by rw [if_pos (by omega)]
  | succ e ih => rw [← Nat.add_assoc, sm_succ, ih, if_neg (by omega)]; rfl

theorem prc_sel (w cs : List Nat) (h : ∀ c ∈ cs, c ≤ w.length) : sm w.length (fun i => w.getD i 0 * ct cs i) = lvc w cs := by
  induction cs with
  | nil =>
    have : ∀ u, sm u (fun i => w.getD i 0 * ct [] i) = 0 := fun u => by
      induction u with
      | zero => rfl
      | succ u ih => rw [sm_succ, ih]; rfl
    rw [this]; rfl
  | cons c cs ih =>
    have e : sm w.length (fun i => w.getD i 0 * ct (c :: cs) i) = sm w.length (fun i => (if i < c then w.getD i 0 else 0) + w.getD i 0 * ct cs i) := sm_congr fun i _ => by
      rw [ct_cons, Nat.mul_add]
      split <;> simp
    rw [e, sm_add, sm_cut _ _ _ (h c (by simp)), ← sm_take _ _ (h c (by simp)), ih fun x hx => h x (by simp [hx])]
    simp [lvc]
end Go.Proofs.YtkmefeihkmbngaaDoor

