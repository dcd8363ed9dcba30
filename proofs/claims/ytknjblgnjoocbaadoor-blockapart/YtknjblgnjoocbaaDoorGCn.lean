import Derived.Test.YtknjblgnjoocbaaDoorGBsd
import Derived.Test.YtknjblgnjoocbaaDoorGSy
namespace Go.Proofs.YtknjblgnjoocbaaDoor
set_option maxRecDepth 20000
set_option linter.unusedVariables false

/-- The symbols of a length and of a distance. -/
noncomputable def lsy (x : Nat) : Nat := open Classical in if h : ∃ i, Lsy x i then h.choose else 0
noncomputable def dsy (x : Nat) : Nat := open Classical in if h : ∃ i, Dsy x i then h.choose else 0

theorem lsy_spec {x : Nat} (h : 3 ≤ x) : Lsy x (lsy x) := by
  have he := lsy_is h
  unfold lsy
  rw [dif_pos he]
  exact he.choose_spec

theorem dsy_spec {x : Nat} (h : 1 ≤ x) : Dsy x (dsy x) := by
  have he := dsy_is h
  unfold dsy
  rw [dif_pos he]
  exact he.choose_spec

/-- One more at a place. -/
def inc (l : List Int) (i : Nat) : List Int := l.set i (l.getD i 0 + 1)

theorem inc_len (l : List Int) (i : Nat) : (inc l i).length = l.length := by simp [inc]

/-- The symbol of a token among literals and lengths, and among distances. -/
noncomputable def litS (t : Tk) : Nat := if t.1 = 0 then t.2.2.toNat else 257 + lsy t.1.toNat

noncomputable def cl (l : List Int) (t : Tk) : List Int := inc l (litS t)
noncomputable def cd (d : List Int) (t : Tk) : List Int := if t.1 = 0 then d else inc d (dsy t.2.1.toNat)

/-- How often each symbol stands in a row of tokens, added to what is there. -/
noncomputable def cls (l : List Int) (R : List Tk) : List Int := R.foldl cl l
noncomputable def cdt (d : List Int) (R : List Tk) : List Int := R.foldl cd d

theorem cl_len (l : List Int) (t : Tk) : (cl l t).length = l.length := inc_len _ _
theorem cd_len (d : List Int) (t : Tk) : (cd d t).length = d.length := by unfold cd; split; rfl; exact inc_len _ _

theorem cls_len (R : List Tk) : ∀ l : List Int, (cls l R).length = l.length := by
  induction R with
  | nil => intro l; rfl
  | cons t R ih => intro l; show (cls (cl l t) R).length = _; rw [ih, cl_len]

theorem cdt_len (R : List Tk) : ∀ d : List Int, (cdt d R).length = d.length := by
  induction R with
  | nil => intro l; rfl
  | cons t R ih => intro l; show (cdt (cd l t) R).length = _; rw [ih, cd_len]

theorem cls_snoc (l : List Int) (R : List Tk) (t : Tk) : cls l (R ++ [t]) = cl (cls l R) t := by simp [cls]
theorem cdt_snoc (d : List Int) (R : List Tk) (t : Tk) : cdt d (R ++ [t]) = cd (cdt d R) t := by simp [cdt]

/-- A token's literal is a byte. -/
def Bt (t : Tk) : Prop := 0 ≤ t.2.2 ∧ t.2.2 < 256

theorem litS_in {t : Tk} (h : Snd t) (hb : Bt t) : litS t < 286 ∧ litS t ≠ 256 := by
  unfold litS
  obtain ⟨b0, b1⟩ := hb
  by_cases h0 : t.1 = 0
  · rw [if_pos h0]; omega
  · rw [if_neg h0]
    unfold Snd at h
    rw [if_neg h0] at h
    have := (lsy_spec (x := t.1.toNat) (by omega)).1
    omega

theorem dsy_in {t : Tk} (h : Snd t) (h0 : ¬ t.1 = 0) : dsy t.2.1.toNat < 30 := by
  unfold Snd at h
  rw [if_neg h0] at h
  exact (dsy_spec (x := t.2.1.toNat) (by omega)).1

theorem inc_set {l : List Int} {i j : Nat} {x : Int} (h : i ≠ j) : inc (l.set j x) i = (inc l i).set j x := by
  unfold inc
  rw [List.set_comm _ _ (fun e => h e)]
  congr 2
  simp [List.getD_eq_getElem?_getD, List.getElem?_set_ne (fun e => h e.symm)]

/-- The end's symbol may be counted first or last. -/
theorem cls_end (R : List Tk) : ∀ l : List Int, (∀ t ∈ R, Snd t ∧ Bt t) → cls (l.set 256 1) R = (cls l R).set 256 1 := by
  induction R with
  | nil => intro l _; rfl
  | cons t R ih =>
    intro l h
    have ht := h t (by simp)
    show cls (cl (l.set 256 1) t) R = (cls (cl l t) R).set 256 1
    have e : cl (l.set 256 1) t = (cl l t).set 256 1 := inc_set (litS_in ht.1 ht.2).2
    rw [e]
    exact ih _ fun u hu => h u (by simp [hu])

/-- All numbers of a list lie between 0 and m. -/
def Bd (l : List Int) (m : Nat) : Prop := ∀ i, 0 ≤ l.getD i 0 ∧ l.getD i 0 ≤ (m : Int)

theorem bd_inc {l : List Int} {m : Nat} (h : Bd l m) (j : Nat) : Bd (inc l j) (m + 1) := by
  intro i
  have hi := h i
  have hj := h j
  by_cases e : i = j
  · subst e
    by_cases hl : i < l.length
    · have e1 : (inc l i).getD i 0 = l.getD i 0 + 1 := by simp [inc, List.getD_eq_getElem?_getD, hl]
      rw [e1]
      omega
    · have e1 : (inc l i).getD i 0 = 0 := by
        rw [List.getD_eq_getElem?_getD, List.getElem?_eq_none (by rw [inc_len]; omega)]
        rfl
      rw [e1]
      omega
  · have e1 : (inc l j).getD i 0 = l.getD i 0 := by
      simp only [inc, List.getD_eq_getElem?_getD]
      rw [List.getElem?_set_ne (fun q => e q.symm)]
    rw [e1]
    omega

theorem bd_more {l : List Int} {m n : Nat} (h : Bd l m) (hn : m ≤ n) : Bd l n := fun i => by have := h i; omega

theorem bd_cls (R : List Tk) : ∀ (l : List Int) (m : Nat), Bd l m → Bd (cls l R) (m + R.length) := by
  induction R with
  | nil => intro l m h; exact h
  | cons t R ih =>
    intro l m h
    have := ih (cl l t) (m + 1) (bd_inc h _)
    exact bd_more this (by simp; omega)

theorem bd_cdt (R : List Tk) : ∀ (d : List Int) (m : Nat), Bd d m → Bd (cdt d R) (m + R.length) := by
  induction R with
  | nil => intro l m h; exact h
  | cons t R ih =>
    intro d m h
    have h1 : Bd (cd d t) (m + 1) := by
      unfold cd
      split
      · exact bd_more h (by omega)
      · exact bd_inc h _
    have := ih (cd d t) (m + 1) h1
    exact bd_more this (by simp; omega)
end Go.Proofs.YtknjblgnjoocbaaDoor

namespace Go.Proofs.YtknjblgnjoocbaaDoor
open Go.RowKit
set_option maxRecDepth 20000
set_option linter.unusedVariables false

theorem results_tmp4 {fn : Func} {t u v x : Tmp} (h : fn.results = #[.tmp t, .tmp u, .tmp v, .tmp x]) (tmps : Array Value) (P : Program) (w : World) :
    (results fn tmps).run P w = .ok (.tuple #[tmps.getD t undef, tmps.getD u undef, tmps.getD v undef, tmps.getD x undef]) w := by
  simp [results, h]

theorem lsym1_any (g x i : Nat) (w : World) (T : Ltab w) (hi : i < 29) (hc : w.cell? ⟨g, 0, none⟩ = some (.int .i64 (x : Int))) :
    Calls Tryd.prog 21 #[.int .i64 (i : Int), .pointer (some ⟨g, 0, none⟩)] w fun e w' => e = .returned (.bool (decide (x < LB i))) ∧ ∃ m, w' = w.drewN m := by
  have c0 := T.base i hi
  obtain ⟨B, hB⟩ : ∃ B, LB i = B := ⟨_, rfl⟩
  rw [hB] at c0 ⊢
  have hi' : (i : Int) < 29 := by omega
  by_cases h : x < B
  · have HD : Hid (decide (x < B) = true) := decide_eq_true h
    rw [HD.out]
    have h' : (x : Int) < (B : Int) := by omega
    have d : decide ((x : Int) < (B : Int)) = true := decide_eq_true h'
    clear hB
    go_enter Tryd.func21, Tryd.ntmps21
    go_wp2
    go_quiet (fail)
    go_wp2
    go_ret
    exact ⟨rfl, _, rfl⟩
  · have HD : Hid (decide (x < B) = false) := decide_eq_false h
    rw [HD.out]
    have h' : ¬ (x : Int) < (B : Int) := by omega
    have d : decide ((x : Int) < (B : Int)) = false := decide_eq_false h'
    clear hB
    go_enter Tryd.func21, Tryd.ntmps21
    go_wp2
    go_quiet (fail)
    go_wp2
    go_ret
    exact ⟨rfl, _, rfl⟩

set_option maxHeartbeats 1000000 in
theorem lsymbol_any (x i : Nat) (w : World) (T : Ltab w) (h : Lsy x i) (hx : 3 ≤ x) (hx2 : x ≤ 258) :
    Calls Tryd.prog 17 #[.int .i64 (x : Int)] w fun e w' => e = .returned (.tuple #[.int .i64 ((257 + i : Nat) : Int), .int .i64 (LF i : Int), .int .i64 ((x - LB i : Nat) : Int), .int .i64 0]) ∧ Below w.heap.size w w' := by
  obtain ⟨h1, h2, h3⟩ := h
  have HB1 : Hid (Below w.heap.size w (w.alloc (.cells #[.int .i64 (x : Int)] 3))) := (Below.refl _ _).alloc (Nat.le_refl _) _
  obtain ⟨w1, hw1⟩ : ∃ w1, w.alloc (.cells #[.int .i64 (x : Int)] 3) = w1 := ⟨_, rfl⟩
  have HN : Hid (w1.heap[w.heap.size]? = some (.cells #[.int .i64 (x : Int)] 3 (0, 0))) := by show _ = _; rw [← hw1]; exact heap_alloc_new w _
  rw [hw1] at HB1
  have c0 : w1.cell? ⟨w.heap.size, 0, none⟩ = some (.int .i64 (x : Int)) := by unfold World.cell?; rw [HN.out]; rfl
  have HT := hide (T.low HB1.out)
  have HSE : Hid (Calls Tryd.prog 20 #[.int .i64 29, .func (.func 21) #[] #[.pointer (some ⟨w.heap.size, 0, none⟩)]] w1 fun e w' => e = .returned (.int .i64 ((i + 1 : Nat) : Int)) ∧ ∃ n, w' = w1.drewN n) := by
    refine search_any 21 (.pointer (some ⟨w.heap.size, 0, none⟩)) 29 (i + 1) w1 (by omega) (by omega) Tryd.call21 fun j n hj => ?_
    refine (lsym1_any w.heap.size x j (w1.drewN n) (HT.out.low (below_drewN (Below.refl _ _) n)) hj c0).mono ?_
    rintro e w' ⟨rfl, m, rfl⟩
    refine ⟨?_, n + m, by rw [World.drewN_drewN]⟩
    congr 2
    by_cases hji : i + 1 ≤ j
    · rw [decide_eq_true hji, decide_eq_true (h3 j (by omega) hj)]
    · rw [decide_eq_false hji, decide_eq_false]
      by_cases e : j = i
      · subst e; omega
      · have := lb_up j i (by omega) (by omega) (by omega); omega
  have t0 := HT.out.base i h1
  have t1 := HT.out.more i h1
  obtain ⟨B, hB⟩ : ∃ B, LB i = B := ⟨_, rfl⟩
  obtain ⟨F, hF⟩ : ∃ F, LF i = F := ⟨_, rfl⟩
  rw [hB] at t0 h2 ⊢
  rw [hF] at t1 ⊢
  have hmf : ∀ (fn : Fn) (first cap : Array Value) (w : World), (Instr.makeFunc fn first cap).run Tryd.prog w = .ok (.func fn first cap) w := fun _ _ _ _ => rfl
  have g1 : ¬ (x : Int) < 3 := by omega
  have g2 : ¬ (258 : Int) < (x : Int) := by omega
  have g3 : ((i + 1 : Nat) : Int) - 1 = (i : Int) := by omega
  have g4 : (x : Int) - (B : Int) = ((x - B : Nat) : Int) := by omega
  have g5 : (257 : Int) + (i : Int) = ((257 + i : Nat) : Int) := by omega
  have hi' : (i : Int) < 29 := by omega
  have g6 : wrap64 ((x : Int) - (B : Int)) = ((x - B : Nat) : Int) := by unfold wrap64; omega
  have g7 : wrap64 ((257 : Int) + (i : Int)) = ((257 + i : Nat) : Int) := by unfold wrap64; omega
  obtain ⟨I1, hI1⟩ : ∃ z : Int, ((i + 1 : Nat) : Int) = z := ⟨_, rfl⟩
  have g8 : wrap64 (I1 - 1) = (i : Int) := by unfold wrap64; omega
  rw [hI1] at HSE g3
  obtain ⟨Z, hZ⟩ : ∃ z : Int, ((x - B : Nat) : Int) = z := ⟨_, rfl⟩
  obtain ⟨Y, hY⟩ : ∃ z : Int, ((257 + i : Nat) : Int) = z := ⟨_, rfl⟩
  rw [hZ] at g4 g6 ⊢
  rw [hY] at g5 g7 ⊢
  clear hI1 hZ hY hB hF h3
  go_enter Tryd.func17, Tryd.ntmps17
  go_wp2_with fail
  refine HSE.out.mono ?_
  rintro e w2 ⟨rfl, n, hw2⟩
  subst hw2
  clear hw1
  have p0 : (w1.drewN n).cell? ⟨w.heap.size, 0, none⟩ = some (.int .i64 (x : Int)) := c0
  have p1 : (w1.drewN n).cell? ⟨0, i * 2, none⟩ = some (.int .i64 (B : Int)) := t0
  have p2 : (w1.drewN n).cell? ⟨0, i * 2 + 1, none⟩ = some (.int .i64 (F : Int)) := t1
  have HB2 : Hid (∀ m, Below w.heap.size w ((w1.drewN n).drewN m)) := fun m => below_drewN (below_drewN HB1.out n) m
  go_wp2
  go_quiet (fail)
  go_wp2
  refine bodyPost_ret (results_tmp4 rfl _ _ _) rfl ?_
  exact ⟨rfl, HB2.out _⟩

theorem lsymbol_no (x : Int) (w : World) (h : ¬ (3 ≤ x ∧ x ≤ 258)) :
    Calls Tryd.prog 17 #[.int .i64 x] w fun e w' => e = .returned (.tuple #[.int .i64 0, .int .i64 0, .int .i64 0, .int .i64 1]) ∧ Below w.heap.size w w' := by
  have HB1 : Hid (Below w.heap.size w (w.alloc (.cells #[.int .i64 x] 3))) := (Below.refl _ _).alloc (Nat.le_refl _) _
  by_cases h1 : x < 3
  · go_enter Tryd.func17, Tryd.ntmps17
    go_wp2
    refine bodyPost_ret (results_tmp4 rfl _ _ _) rfl ?_
    exact ⟨rfl, HB1.out⟩
  · have h2 : (258 : Int) < x := by omega
    go_enter Tryd.func17, Tryd.ntmps17
    go_wp2
    refine bodyPost_ret (results_tmp4 rfl _ _ _) rfl ?_
    exact ⟨rfl, HB1.out⟩

theorem dsym1_any (g x i : Nat) (w : World) (T : Dtab w) (hi : i < 30) (hc : w.cell? ⟨g, 0, none⟩ = some (.int .i64 (x : Int))) :
    Calls Tryd.prog 22 #[.int .i64 (i : Int), .pointer (some ⟨g, 0, none⟩)] w fun e w' => e = .returned (.bool (decide (x < DB i))) ∧ ∃ m, w' = w.drewN m := by
  have c0 := T.base i hi
  obtain ⟨B, hB⟩ : ∃ B, DB i = B := ⟨_, rfl⟩
  rw [hB] at c0 ⊢
  have hi' : (i : Int) < 30 := by omega
  by_cases h : x < B
  · have HD : Hid (decide (x < B) = true) := decide_eq_true h
    rw [HD.out]
    have h' : (x : Int) < (B : Int) := by omega
    have d : decide ((x : Int) < (B : Int)) = true := decide_eq_true h'
    clear hB
    go_enter Tryd.func22, Tryd.ntmps22
    go_wp2
    go_quiet (fail)
    go_wp2
    go_ret
    exact ⟨rfl, _, rfl⟩
  · have HD : Hid (decide (x < B) = false) := decide_eq_false h
    rw [HD.out]
    have h' : ¬ (x : Int) < (B : Int) := by omega
    have d : decide ((x : Int) < (B : Int)) = false := decide_eq_false h'
    clear hB
    go_enter Tryd.func22, Tryd.ntmps22
    go_wp2
    go_quiet (fail)
    go_wp2
    go_ret
    exact ⟨rfl, _, rfl⟩

set_option maxHeartbeats 1000000 in
theorem dsymbol_any (x i : Nat) (w : World) (T : Dtab w) (h : Dsy x i) (hx : 1 ≤ x) (hx2 : x ≤ 32768) :
    Calls Tryd.prog 18 #[.int .i64 (x : Int)] w fun e w' => e = .returned (.tuple #[.int .i64 (i : Int), .int .i64 (DF i : Int), .int .i64 ((x - DB i : Nat) : Int), .int .i64 0]) ∧ Below w.heap.size w w' := by
  obtain ⟨h1, h2, h3⟩ := h
  have HB1 : Hid (Below w.heap.size w (w.alloc (.cells #[.int .i64 (x : Int)] 3))) := (Below.refl _ _).alloc (Nat.le_refl _) _
  obtain ⟨w1, hw1⟩ : ∃ w1, w.alloc (.cells #[.int .i64 (x : Int)] 3) = w1 := ⟨_, rfl⟩
  have HN : Hid (w1.heap[w.heap.size]? = some (.cells #[.int .i64 (x : Int)] 3 (0, 0))) := by show _ = _; rw [← hw1]; exact heap_alloc_new w _
  rw [hw1] at HB1
  have c0 : w1.cell? ⟨w.heap.size, 0, none⟩ = some (.int .i64 (x : Int)) := by unfold World.cell?; rw [HN.out]; rfl
  have HT := hide (T.low HB1.out)
  have HSE : Hid (Calls Tryd.prog 20 #[.int .i64 30, .func (.func 22) #[] #[.pointer (some ⟨w.heap.size, 0, none⟩)]] w1 fun e w' => e = .returned (.int .i64 ((i + 1 : Nat) : Int)) ∧ ∃ n, w' = w1.drewN n) := by
    refine search_any 22 (.pointer (some ⟨w.heap.size, 0, none⟩)) 30 (i + 1) w1 (by omega) (by omega) Tryd.call22 fun j n hj => ?_
    refine (dsym1_any w.heap.size x j (w1.drewN n) (HT.out.low (below_drewN (Below.refl _ _) n)) hj c0).mono ?_
    rintro e w' ⟨rfl, m, rfl⟩
    refine ⟨?_, n + m, by rw [World.drewN_drewN]⟩
    congr 2
    by_cases hji : i + 1 ≤ j
    · rw [decide_eq_true hji, decide_eq_true (h3 j (by omega) hj)]
    · rw [decide_eq_false hji, decide_eq_false]
      by_cases e : j = i
      · subst e; omega
      · have := db_up j i (by omega) (by omega) (by omega); omega
  have t0 := HT.out.base i h1
  have t1 := HT.out.more i h1
  obtain ⟨B, hB⟩ : ∃ B, DB i = B := ⟨_, rfl⟩
  obtain ⟨F, hF⟩ : ∃ F, DF i = F := ⟨_, rfl⟩
  rw [hB] at t0 h2 ⊢
  rw [hF] at t1 ⊢
  have hmf : ∀ (fn : Fn) (first cap : Array Value) (w : World), (Instr.makeFunc fn first cap).run Tryd.prog w = .ok (.func fn first cap) w := fun _ _ _ _ => rfl
  have g1 : ¬ (x : Int) < 1 := by omega
  have g2 : ¬ (32768 : Int) < (x : Int) := by omega
  have g3 : ((i + 1 : Nat) : Int) - 1 = (i : Int) := by omega
  have g4 : (x : Int) - (B : Int) = ((x - B : Nat) : Int) := by omega
  have hi' : (i : Int) < 30 := by omega
  have g6 : wrap64 ((x : Int) - (B : Int)) = ((x - B : Nat) : Int) := by unfold wrap64; omega
  obtain ⟨I1, hI1⟩ : ∃ z : Int, ((i + 1 : Nat) : Int) = z := ⟨_, rfl⟩
  have g8 : wrap64 (I1 - 1) = (i : Int) := by unfold wrap64; omega
  rw [hI1] at HSE g3
  obtain ⟨Z, hZ⟩ : ∃ z : Int, ((x - B : Nat) : Int) = z := ⟨_, rfl⟩
  rw [hZ] at g4 g6 ⊢
  clear hI1 hZ hB hF h3
  go_enter Tryd.func18, Tryd.ntmps18
  go_wp2_with fail
  refine HSE.out.mono ?_
  rintro e w2 ⟨rfl, n, hw2⟩
  subst hw2
  clear hw1
  have p0 : (w1.drewN n).cell? ⟨w.heap.size, 0, none⟩ = some (.int .i64 (x : Int)) := c0
  have p1 : (w1.drewN n).cell? ⟨1, i * 2, none⟩ = some (.int .i64 (B : Int)) := t0
  have p2 : (w1.drewN n).cell? ⟨1, i * 2 + 1, none⟩ = some (.int .i64 (F : Int)) := t1
  have HB2 : Hid (∀ m, Below w.heap.size w ((w1.drewN n).drewN m)) := fun m => below_drewN (below_drewN HB1.out n) m
  go_wp2
  go_quiet (fail)
  go_wp2
  refine bodyPost_ret (results_tmp4 rfl _ _ _) rfl ?_
  exact ⟨rfl, HB2.out _⟩

theorem dsymbol_no (x : Int) (w : World) (h : ¬ (1 ≤ x ∧ x ≤ 32768)) :
    Calls Tryd.prog 18 #[.int .i64 x] w fun e w' => e = .returned (.tuple #[.int .i64 0, .int .i64 0, .int .i64 0, .int .i64 1]) ∧ Below w.heap.size w w' := by
  have HB1 : Hid (Below w.heap.size w (w.alloc (.cells #[.int .i64 x] 3))) := (Below.refl _ _).alloc (Nat.le_refl _) _
  by_cases h1 : x < 1
  · go_enter Tryd.func18, Tryd.ntmps18
    go_wp2
    refine bodyPost_ret (results_tmp4 rfl _ _ _) rfl ?_
    exact ⟨rfl, HB1.out⟩
  · have h2 : (32768 : Int) < x := by omega
    go_enter Tryd.func18, Tryd.ntmps18
    go_wp2
    refine bodyPost_ret (results_tmp4 rfl _ _ _) rfl ?_
    exact ⟨rfl, HB1.out⟩
end Go.Proofs.YtknjblgnjoocbaaDoor

