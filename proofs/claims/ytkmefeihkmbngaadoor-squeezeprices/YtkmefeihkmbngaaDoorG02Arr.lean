import Derived.Test.YtkmefeihkmbngaaDoorG01Sym
import Derived.Test.YtkmefeihkmbngaaDoorG00Tkw
import Derived.Laws.CopyOwn
import Derived.Handy
import Derived.Laws.Rows
import Derived.Laws.Tables
namespace Go.Proofs.YtkmefeihkmbngaaDoor
set_option maxRecDepth 20000
set_option linter.unusedVariables false

noncomputable def lsy (x : Nat) : Nat := open Classical in if h : ∃ i, Lsy x i then h.choose else 0
noncomputable def dsy (x : Nat) : Nat := open Classical in if h : ∃ i, Dsy x i then h.choose else 0

theorem lsy_spec {x : Nat} (h : 3 ≤ x) : Lsy x (lsy x) := by
  have he := lsy_is h
  unfold lsy
  rw [dif_pos he]
  exact he.choose_spec

theorem dsy_spec {x : Nat} (h : 1 ≤ x) : Dsy x (dsy x) := by
  have he := dsy_is h
  unfold dsy
  rw [dif_pos he]
  exact he.choose_spec

def inc (l : List Int) (i : Nat) : List Int := l.set i (l.getD i 0 + 1)

theorem inc_len (l : List Int) (i : Nat) : (inc l i).length = l.length := by simp [inc]

noncomputable def litS (t : Tk) : Nat := if t.1 = 0 then t.2.2.toNat else 257 + lsy t.1.toNat

noncomputable def cl (l : List Int) (t : Tk) : List Int := inc l (litS t)
noncomputable def cd (d : List Int) (t : Tk) : List Int := if t.1 = 0 then d else inc d (dsy t.2.1.toNat)

noncomputable def cls (l : List Int) (R : List Tk) : List Int := R.foldl cl l
noncomputable def cdt (d : List Int) (R : List Tk) : List Int := R.foldl cd d

theorem cl_len (l : List Int) (t : Tk) : (cl l t).length = l.length := inc_len _ _
theorem cd_len (d : List Int) (t : Tk) : (cd d t).length = d.length := by unfold cd; split; rfl; exact inc_len _ _

theorem cls_len (R : List Tk) : ∀ l : List Int, (cls l R).length = l.length := by
  induction R with
  | nil => intro l; rfl
  | cons t R ih => intro l; show (cls (cl l t) R).length = _; rw [ih, cl_len]

theorem cdt_len (R : List Tk) : ∀ d : List Int, (cdt d R).length = d.length := by
  induction R with
  | nil => intro l; rfl
  | cons t R ih => intro l; show (cdt (cd l t) R).length = _; rw [ih, cd_len]

theorem cls_snoc (l : List Int) (R : List Tk) (t : Tk) : cls l (R ++ [t]) = cl (cls l R) t := by simp [cls]
theorem cdt_snoc (d : List Int) (R : List Tk) (t : Tk) : cdt d (R ++ [t]) = cd (cdt d R) t := by simp [cdt]

def Bt (t : Tk) : Prop := 0 ≤ t.2.2 ∧ t.2.2 < 256

theorem litS_in {t : Tk} (h : Snd t) (hb : Bt t) : litS t < 286 ∧ litS t ≠ 256 := by
  unfold litS
  obtain ⟨b0, b1⟩ := hb
  by_cases h0 : t.1 = 0
  · rw [if_pos h0]; omega
  · rw [if_neg h0]
    unfold Snd at h
    rw [if_neg h0] at h
    have := (lsy_spec (x := t.1.toNat) (by omega)).1
    omega

theorem dsy_in {t : Tk} (h : Snd t) (h0 : ¬ t.1 = 0) : dsy t.2.1.toNat < 30 := by
  unfold Snd at h
  rw [if_neg h0] at h
  exact (dsy_spec (x := t.2.1.toNat) (by omega)).1

theorem inc_set {l : List Int} {i j : Nat} {x : Int} (h : i ≠ j) : inc (l.set j x) i = (inc l i).set j x := by
  unfold inc
  rw [List.set_comm _ _ (fun e => h e)]
  congr 2
  simp [List.getD_eq_getElem?_getD, List.getElem?_set_ne (fun e => h e.symm)]

theorem cls_end (R : List Tk) : ∀ l : List Int, (∀ t ∈ R, Snd t ∧ Bt t) → cls (l.set 256 1) R = (cls l R).set 256 1 := by
  induction R with
  | nil => intro l _; rfl
  | cons t R ih =>
    intro l h
    have ht := h t (by simp)
    show cls (cl (l.set 256 1) t) R = (cls (cl l t) R).set 256 1
    have e : cl (l.set 256 1) t = (cl l t).set 256 1 := inc_set (litS_in ht.1 ht.2).2
    rw [e]
    exact ih _ fun u hu => h u (by simp [hu])

def Bd (l : List Int) (m : Nat) : Prop := ∀ i, 0 ≤ l.getD i 0 ∧ l.getD i 0 ≤ (m : Int)

theorem bd_inc {l : List Int} {m : Nat} (h : Bd l m) (j : Nat) : Bd (inc l j) (m + 1) := by
  intro i
  have hi := h i
  have hj := h j
  by_cases e : i = j
  · subst e
    by_cases hl : i < l.length
    · have e1 : (inc l i).getD i 0 = l.getD i 0 + 1 := by simp [inc, List.getD_eq_getElem?_getD, hl]
      rw [e1]
      omega
    · have e1 : (inc l i).getD i 0 = 0 := by
        rw [List.getD_eq_getElem?_getD, List.getElem?_eq_none (by rw [inc_len]; omega)]
        rfl
      rw [e1]
      omega
  · have e1 : (inc l j).getD i 0 = l.getD i 0 := by
      simp only [inc, List.getD_eq_getElem?_getD]
      rw [List.getElem?_set_ne (fun q => e q.symm)]
    rw [e1]
    omega

theorem bd_more {l : List Int} {m n : Nat} (h : Bd l m) (hn : m ≤ n) : Bd l n := fun i => by have := h i; omega

theorem bd_cls (R : List Tk) : ∀ (l : List Int) (m : Nat), Bd l m → Bd (cls l R) (m + R.length) := by
  induction R with
  | nil => intro l m h; exact h
  | cons t R ih =>
    intro l m h
    have := ih (cl l t) (m + 1) (bd_inc h _)
    exact bd_more this (by simp; omega)

theorem bd_cdt (R : List Tk) : ∀ (d : List Int) (m : Nat), Bd d m → Bd (cdt d R) (m + R.length) := by
  induction R with
  | nil => intro l m h; exact h
  | cons t R ih =>
    intro d m h
    have h1 : Bd (cd d t) (m + 1) := by
      unfold cd
      split
      · exact bd_more h (by omega)
      · exact bd_inc h _
    have := ih (cd d t) (m + 1) h1
    exact bd_more this (by simp; omega)
end Go.Proofs.YtkmefeihkmbngaaDoor

namespace Go.Proofs.YtkmefeihkmbngaaDoor
open Go.RowKit
set_option maxRecDepth 20000
set_option linter.unusedVariables false

theorem results_tmp4 {fn : Func} {t u v x : Tmp} (h : fn.results = #[.tmp t, .tmp u, .tmp v, .tmp x]) (tmps : Array Value) (P : Program) (w : World) :
    (results fn tmps).run P w = .ok (.tuple #[tmps.getD t undef, tmps.getD u undef, tmps.getD v undef, tmps.getD x undef]) w := by
  simp [results, h]

theorem lsym1_any (g x i : Nat) (w : World) (T : Ltab w) (hi : i < 29) (hc : w.cell? ⟨g, 0, none⟩ = some (.int .i64 (x : Int))) :
    Calls Tryd.prog 53 #[.int .i64 (i : Int), .pointer (some ⟨g, 0, none⟩)] w fun e w' => e = .returned (.bool (decide (x < LB i))) ∧ ∃ m, w' = w.drewN m := by
  have c0 := T.base i hi
  obtain ⟨B, hB⟩ : ∃ B, LB i = B := ⟨_, rfl⟩
  rw [hB] at c0 ⊢
  have hi' : (i : Int) < 29 := by omega
  by_cases h : x < B
  · have HD : Hid (decide (x < B) = true) := decide_eq_true h
    rw [HD.out]
    have h' : (x : Int) < (B : Int) := by omega
    have d : decide ((x : Int) < (B : Int)) = true := decide_eq_true h'
    clear hB
    go_enter Tryd.func53, Tryd.ntmps53
    go_wp2
    go_quiet (fail)
    go_wp2
    go_ret
    exact ⟨rfl, _, rfl⟩
  · have HD : Hid (decide (x < B) = false) := decide_eq_false h
    rw [HD.out]
    have h' : ¬ (x : Int) < (B : Int) := by omega
    have d : decide ((x : Int) < (B : Int)) = false := decide_eq_false h'
    clear hB
    go_enter Tryd.func53, Tryd.ntmps53
    go_wp2
    go_quiet (fail)
    go_wp2
    go_ret
    exact ⟨rfl, _, rfl⟩

set_option maxHeartbeats 1000000 in
theorem lsymbol_any (x i : Nat) (w : World) (T : Ltab w) (h : Lsy x i) (hx : 3 ≤ x) (hx2 : x ≤ 258) :
    Calls Tryd.prog 39 #[.int .i64 (x : Int)] w fun e w' => e = .returned (.tuple #[.int .i64 ((257 + i : Nat) : Int), .int .i64 (LF i : Int), .int .i64 ((x - LB i : Nat) : Int), .int .i64 0]) ∧ Below w.heap.size w w' := by
  obtain ⟨h1, h2, h3⟩ := h
  have HB1 : Hid (Below w.heap.size w (w.alloc (.cells #[.int .i64 (x : Int)] 3))) := (Below.refl _ _).alloc (Nat.le_refl _) _
  obtain ⟨w1, hw1⟩ : ∃ w1, w.alloc (.cells #[.int .i64 (x : Int)] 3) = w1 := ⟨_, rfl⟩
  have HN : Hid (w1.heap[w.heap.size]? = some (.cells #[.int .i64 (x : Int)] 3 (0, 0))) := by show _ = _; rw [← hw1]; exact heap_alloc_new w _
  rw [hw1] at HB1
  have c0 : w1.cell? ⟨w.heap.size, 0, none⟩ = some (.int .i64 (x : Int)) := by unfold World.cell?; rw [HN.out]; rfl
  have HT := hide (T.low HB1.out)
  have HSE : Hid (Calls Tryd.prog 52 #[.int .i64 29, .func (.func 53) #[] #[.pointer (some ⟨w.heap.size, 0, none⟩)]] w1 fun e w' => e = .returned (.int .i64 ((i + 1 : Nat) : Int)) ∧ ∃ n, w' = w1.drewN n) := by
    refine search_any 53 (.pointer (some ⟨w.heap.size, 0, none⟩)) 29 (i + 1) w1 (by omega) (by omega) Tryd.call53 fun j n hj => ?_
    refine (lsym1_any w.heap.size x j (w1.drewN n) (HT.out.low (below_drewN (Below.refl _ _) n)) hj c0).mono ?_
    rintro e w' ⟨rfl, m, rfl⟩
    refine ⟨?_, n + m, by rw [World.drewN_drewN]⟩
    congr 2
    by_cases hji : i + 1 ≤ j
    · rw [decide_eq_true hji, decide_eq_true (h3 j (by omega) hj)]
    · rw [decide_eq_false hji, decide_eq_false]
      by_cases e : j = i
      · subst e; omega
      · have := lb_up j i (by omega) (by omega) (by omega); omega
  have t0 := HT.out.base i h1
  have t1 := HT.out.more i h1
  obtain ⟨B, hB⟩ : ∃ B, LB i = B := ⟨_, rfl⟩
  obtain ⟨F, hF⟩ : ∃ F, LF i = F := ⟨_, rfl⟩
  rw [hB] at t0 h2 ⊢
  rw [hF] at t1 ⊢
  have hmf : ∀ (fn : Fn) (first cap : Array Value) (w : World), (Instr.makeFunc fn first cap).run Tryd.prog w = .ok (.func fn first cap) w := fun _ _ _ _ => rfl
  have g1 : ¬ (x : Int) < 3 := by omega
  have g2 : ¬ (258 : Int) < (x : Int) := by omega
  have g3 : ((i + 1 : Nat) : Int) - 1 = (i : Int) := by omega
  have g4 : (x : Int) - (B : Int) = ((x - B : Nat) : Int) := by omega
  have g5 : (257 : Int) + (i : Int) = ((257 + i : Nat) : Int) := by omega
  have hi' : (i : Int) < 29 := by omega
  have g6 : wrap64 ((x : Int) - (B : Int)) = ((x - B : Nat) : Int) := by unfold wrap64; omega
  have g7 : wrap64 ((257 : Int) + (i : Int)) = ((257 + i : Nat) : Int) := by unfold wrap64; omega
  obtain ⟨I1, hI1⟩ : ∃ z : Int, ((i + 1 : Nat) : Int) = z := ⟨_, rfl⟩
  have g8 : wrap64 (I1 - 1) = (i : Int) := by unfold wrap64; omega
  rw [hI1] at HSE g3
  obtain ⟨Z, hZ⟩ : ∃ z : Int, ((x - B : Nat) : Int) = z := ⟨_, rfl⟩
  obtain ⟨Y, hY⟩ : ∃ z : Int, ((257 + i : Nat) : Int) = z := ⟨_, rfl⟩
  rw [hZ] at g4 g6 ⊢
  rw [hY] at g5 g7 ⊢
  clear hI1 hZ hY hB hF h3
  go_enter Tryd.func39, Tryd.ntmps39
  go_wp2_with fail
  refine HSE.out.mono ?_
  rintro e w2 ⟨rfl, n, hw2⟩
  subst hw2
  clear hw1
  have p0 : (w1.drewN n).cell? ⟨w.heap.size, 0, none⟩ = some (.int .i64 (x : Int)) := c0
  have p1 : (w1.drewN n).cell? ⟨0, i * 2, none⟩ = some (.int .i64 (B : Int)) := t0
  have p2 : (w1.drewN n).cell? ⟨0, i * 2 + 1, none⟩ = some (.int .i64 (F : Int)) := t1
  have HB2 : Hid (∀ m, Below w.heap.size w ((w1.drewN n).drewN m)) := fun m => below_drewN (below_drewN HB1.out n) m
  go_wp2
  go_quiet (fail)
  go_wp2
  refine bodyPost_ret (results_tmp4 rfl _ _ _) rfl ?_
  exact ⟨rfl, HB2.out _⟩

theorem dsym1_any (g x i : Nat) (w : World) (T : Dtab w) (hi : i < 30) (hc : w.cell? ⟨g, 0, none⟩ = some (.int .i64 (x : Int))) :
    Calls Tryd.prog 54 #[.int .i64 (i : Int), .pointer (some ⟨g, 0, none⟩)] w fun e w' => e = .returned (.bool (decide (x < DB i))) ∧ ∃ m, w' = w.drewN m := by
  have c0 := T.base i hi
  obtain ⟨B, hB⟩ : ∃ B, DB i = B := ⟨_, rfl⟩
  rw [hB] at c0 ⊢
  have hi' : (i : Int) < 30 := by omega
  by_cases h : x < B
  · have HD : Hid (decide (x < B) = true) := decide_eq_true h
    rw [HD.out]
    have h' : (x : Int) < (B : Int) := by omega
    have d : decide ((x : Int) < (B : Int)) = true := decide_eq_true h'
    clear hB
    go_enter Tryd.func54, Tryd.ntmps54
    go_wp2
    go_quiet (fail)
    go_wp2
    go_ret
    exact ⟨rfl, _, rfl⟩
  · have HD : Hid (decide (x < B) = false) := decide_eq_false h
    rw [HD.out]
    have h' : ¬ (x : Int) < (B : Int) := by omega
    have d : decide ((x : Int) < (B : Int)) = false := decide_eq_false h'
    clear hB
    go_enter Tryd.func54, Tryd.ntmps54
    go_wp2
    go_quiet (fail)
    go_wp2
    go_ret
    exact ⟨rfl, _, rfl⟩

set_option maxHeartbeats 1000000 in
theorem dsymbol_any (x i : Nat) (w : World) (T : Dtab w) (h : Dsy x i) (hx : 1 ≤ x) (hx2 : x ≤ 32768) :
    Calls Tryd.prog 40 #[.int .i64 (x : Int)] w fun e w' => e = .returned (.tuple #[.int .i64 (i : Int), .int .i64 (DF i : Int), .int .i64 ((x - DB i : Nat) : Int), .int .i64 0]) ∧ Below w.heap.size w w' := by
  obtain ⟨h1, h2, h3⟩ := h
  have HB1 : Hid (Below w.heap.size w (w.alloc (.cells #[.int .i64 (x : Int)] 3))) := (Below.refl _ _).alloc (Nat.le_refl _) _
  obtain ⟨w1, hw1⟩ : ∃ w1, w.alloc (.cells #[.int .i64 (x : Int)] 3) = w1 := ⟨_, rfl⟩
  have HN : Hid (w1.heap[w.heap.size]? = some (.cells #[.int .i64 (x : Int)] 3 (0, 0))) := by show _ = _; rw [← hw1]; exact heap_alloc_new w _
  rw [hw1] at HB1
  have c0 : w1.cell? ⟨w.heap.size, 0, none⟩ = some (.int .i64 (x : Int)) := by unfold World.cell?; rw [HN.out]; rfl
  have HT := hide (T.low HB1.out)
  have HSE : Hid (Calls Tryd.prog 52 #[.int .i64 30, .func (.func 54) #[] #[.pointer (some ⟨w.heap.size, 0, none⟩)]] w1 fun e w' => e = .returned (.int .i64 ((i + 1 : Nat) : Int)) ∧ ∃ n, w' = w1.drewN n) := by
    refine search_any 54 (.pointer (some ⟨w.heap.size, 0, none⟩)) 30 (i + 1) w1 (by omega) (by omega) Tryd.call54 fun j n hj => ?_
    refine (dsym1_any w.heap.size x j (w1.drewN n) (HT.out.low (below_drewN (Below.refl _ _) n)) hj c0).mono ?_
    rintro e w' ⟨rfl, m, rfl⟩
    refine ⟨?_, n + m, by rw [World.drewN_drewN]⟩
    congr 2
    by_cases hji : i + 1 ≤ j
    · rw [decide_eq_true hji, decide_eq_true (h3 j (by omega) hj)]
    · rw [decide_eq_false hji, decide_eq_false]
      by_cases e : j = i
      · subst e; omega
      · have := db_up j i (by omega) (by omega) (by omega); omega
  have t0 := HT.out.base i h1
  have t1 := HT.out.more i h1
  obtain ⟨B, hB⟩ : ∃ B, DB i = B := ⟨_, rfl⟩
  obtain ⟨F, hF⟩ : ∃ F, DF i = F := ⟨_, rfl⟩
  rw [hB] at t0 h2 ⊢
  rw [hF] at t1 ⊢
  have hmf : ∀ (fn : Fn) (first cap : Array Value) (w : World), (Instr.makeFunc fn first cap).run Tryd.prog w = .ok (.func fn first cap) w := fun _ _ _ _ => rfl
  have g1 : ¬ (x : Int) < 1 := by omega
  have g2 : ¬ (32768 : Int) < (x : Int) := by omega
  have g3 : ((i + 1 : Nat) : Int) - 1 = (i : Int) := by omega
  have g4 : (x : Int) - (B : Int) = ((x - B : Nat) : Int) := by omega
  have hi' : (i : Int) < 30 := by omega
  have g6 : wrap64 ((x : Int) - (B : Int)) = ((x - B : Nat) : Int) := by unfold wrap64; omega
  obtain ⟨I1, hI1⟩ : ∃ z : Int, ((i + 1 : Nat) : Int) = z := ⟨_, rfl⟩
  have g8 : wrap64 (I1 - 1) = (i : Int) := by unfold wrap64; omega
  rw [hI1] at HSE g3
  obtain ⟨Z, hZ⟩ : ∃ z : Int, ((x - B : Nat) : Int) = z := ⟨_, rfl⟩
  rw [hZ] at g4 g6 ⊢
  clear hI1 hZ hB hF h3
  go_enter Tryd.func40, Tryd.ntmps40
  go_wp2_with fail
  refine HSE.out.mono ?_
  rintro e w2 ⟨rfl, n, hw2⟩
  subst hw2
  clear hw1
  have p0 : (w1.drewN n).cell? ⟨w.heap.size, 0, none⟩ = some (.int .i64 (x : Int)) := c0
  have p1 : (w1.drewN n).cell? ⟨1, i * 2, none⟩ = some (.int .i64 (B : Int)) := t0
  have p2 : (w1.drewN n).cell? ⟨1, i * 2 + 1, none⟩ = some (.int .i64 (F : Int)) := t1
  have HB2 : Hid (∀ m, Below w.heap.size w ((w1.drewN n).drewN m)) := fun m => below_drewN (below_drewN HB1.out n) m
  go_wp2
  go_quiet (fail)
  go_wp2
  refine bodyPost_ret (results_tmp4 rfl _ _ _) rfl ?_
  exact ⟨rfl, HB2.out _⟩

end Go.Proofs.YtkmefeihkmbngaaDoor

namespace Go.Proofs.YtkmefeihkmbngaaDoor

def Lens (l : List Int) : Prop := l.length ≤ 288 ∧ ∀ x ∈ l, 0 ≤ x ∧ x ≤ 15

def ln (l : List Int) (s : Nat) : Nat := (l.getD s 0).toNat
def cn (l : List Int) (n : Nat) : Nat := if n = 0 then 0 else l.count (n : Int)
def fi (l : List Int) : Nat → Nat
  | 0 => 0
  | n + 1 => 2 * (fi l n + cn l n)
def us (l : List Int) : Nat → Nat
  | 0 => 0
  | n + 1 => us l n + cn l n * 2 ^ (15 - n)
def sh (l : List Int) : Nat → Nat
  | 0 => 0
  | n + 1 => sh l n + cn l n
def rk (l : List Int) (s : Nat) : Nat := (l.take s).count (l.getD s 0)
def wd (l : List Int) (s : Nat) : Nat := if ln l s = 0 then 0 else fi l (ln l s) + rk l s
def Has (l : List Int) (s : Nat) : Prop := s < l.length ∧ 0 < ln l s

theorem getD_mem {l : List Int} {s : Nat} (h : s < l.length) : l.getD s 0 ∈ l := by
  have : l.getD s 0 = l[s] := by simp [h]
  rw [this]; exact List.getElem_mem _

theorem Lens.at {l : List Int} (h : Lens l) (s : Nat) : 0 ≤ l.getD s 0 ∧ l.getD s 0 ≤ 15 := by
  by_cases hs : s < l.length
  · exact h.2 _ (getD_mem hs)
  · have : l.getD s 0 = 0 := by simp [List.getD, List.getElem?_eq_none (Nat.le_of_not_lt hs)]
    rw [this]; decide

theorem Lens.ln {l : List Int} (h : Lens l) (s : Nat) : l.getD s 0 = (Proofs.YtkmefeihkmbngaaDoor.ln l s : Int) ∧ Proofs.YtkmefeihkmbngaaDoor.ln l s ≤ 15 := by
  have := h.at s
  unfold Proofs.YtkmefeihkmbngaaDoor.ln
  omega

theorem fi_us (l : List Int) : ∀ n, n ≤ 15 → fi l n * 2 ^ (15 - n) = us l n
  | 0, _ => by simp [fi, us]
  | n + 1, h => by
    have ih := fi_us l n (by omega)
    simp only [fi, us]
    rw [← ih, show 15 - n = (15 - (n + 1)) + 1 by omega, Nat.pow_succ, ← Nat.add_mul]
    rw [Nat.mul_comm 2 (fi l n + cn l n), Nat.mul_assoc, Nat.mul_comm 2]

theorem fi_end (l : List Int) {n : Nat} (h : n ≤ 15) : (fi l n + cn l n) * 2 ^ (15 - n) = us l (n + 1) := by
  rw [Nat.add_mul, fi_us l n h]; rfl

theorem us_step (l : List Int) (n : Nat) : us l n ≤ us l (n + 1) := by simp only [us]; omega

theorem us_mono (l : List Int) {n m : Nat} (h : n ≤ m) : us l n ≤ us l m := by
  induction m with
  | zero => have : n = 0 := by omega
            subst this; exact Nat.le_refl _
  | succ m ih =>
    by_cases e : n = m + 1
    · subst e; exact Nat.le_refl _
    · exact Nat.le_trans (ih (by omega)) (us_step l m)

theorem count_take_succ (l : List Int) (x : Int) {s : Nat} (h : s < l.length) : (l.take (s + 1)).count x = (l.take s).count x + if l.getD s 0 = x then 1 else 0 := by
  have e : l.getD s 0 = l[s] := by simp [h]
  rw [List.take_succ_eq_append_getElem h, List.count_append, e]
  by_cases hx : l[s] = x
  · simp [hx]
  · simp [hx]

theorem count_take_le (l : List Int) (x : Int) (s : Nat) : (l.take s).count x ≤ l.count x := by
  conv => rhs; rw [← List.take_append_drop s l]
  rw [List.count_append]; omega

theorem count_take_mono (l : List Int) (x : Int) {s t : Nat} (h : s ≤ t) : (l.take s).count x ≤ (l.take t).count x := by
  have := count_take_le (l.take t) x s
  rwa [List.take_take, Nat.min_eq_left h] at this

theorem Has.cn {l : List Int} (hl : Lens l) {s : Nat} (h : Has l s) : Proofs.YtkmefeihkmbngaaDoor.cn l (ln l s) = l.count (l.getD s 0) := by
  unfold Proofs.YtkmefeihkmbngaaDoor.cn
  rw [if_neg (by have := h.2; omega), (hl.ln s).1]

theorem Has.rk_lt {l : List Int} (hl : Lens l) {s : Nat} (h : Has l s) : rk l s < Proofs.YtkmefeihkmbngaaDoor.cn l (ln l s) := by
  rw [h.cn hl]
  have h1 := count_take_succ l (l.getD s 0) h.1
  have h2 := count_take_le l (l.getD s 0) (s + 1)
  unfold rk
  simp at h1
  simp at h2 ⊢
  omega

theorem rk_mono {l : List Int} {s t : Nat} (hs : s < l.length) (hst : s < t) (he : l.getD s 0 = l.getD t 0) : rk l s < rk l t := by
  unfold rk
  have h1 := count_take_succ l (l.getD s 0) hs
  have h2 := count_take_mono l (l.getD s 0) (show s + 1 ≤ t by omega)
  rw [← he]
  simp at h1
  simp at h2 ⊢
  omega

theorem Has.wd {l : List Int} {s : Nat} (h : Has l s) : Proofs.YtkmefeihkmbngaaDoor.wd l s = fi l (ln l s) + rk l s := if_neg (by have := h.2; omega)

def pl (l : List Int) (s : Nat) : Nat := wd l s * 2 ^ (15 - ln l s)

theorem Has.start {l : List Int} (hl : Lens l) {s : Nat} (h : Has l s) : us l (ln l s) ≤ pl l s := by
  unfold pl
  rw [h.wd, ← fi_us l _ (hl.ln s).2]
  exact Nat.mul_le_mul_right _ (by omega)

theorem Has.stop {l : List Int} (hl : Lens l) {s : Nat} (h : Has l s) : pl l s + 2 ^ (15 - ln l s) ≤ us l (ln l s + 1) := by
  unfold pl
  rw [h.wd, ← fi_end l (hl.ln s).2, ← Nat.succ_mul]
  exact Nat.mul_le_mul_right _ (by have := h.rk_lt hl; omega)

def Ahd (l : List Int) (s t : Nat) : Prop := ln l s < ln l t ∨ (ln l s = ln l t ∧ s < t)

theorem ahd_or {l : List Int} {s t : Nat} (h : s ≠ t) : Ahd l s t ∨ Ahd l t s := by unfold Ahd; omega

theorem rows_apart {l : List Int} (hl : Lens l) {s t : Nat} (hs : Has l s) (ht : Has l t) (h : Ahd l s t) : pl l s + 2 ^ (15 - ln l s) ≤ pl l t := by
  rcases h with h | ⟨h, hst⟩
  · have h1 := hs.stop hl
    have h2 := ht.start hl
    have h3 := us_mono l (show ln l s + 1 ≤ ln l t by omega)
    omega
  · have he : l.getD s 0 = l.getD t 0 := by rw [(hl.ln s).1, (hl.ln t).1, h]
    have hr := rk_mono hs.1 hst he
    unfold pl
    rw [hs.wd, ht.wd, h, ← Nat.succ_mul]
    exact Nat.mul_le_mul_right _ (by omega)

def Hit (l : List Int) (R s : Nat) : Prop := Has l s ∧ pl l s ≤ R ∧ R < pl l s + 2 ^ (15 - ln l s)

theorem Hit.one {l : List Int} (hl : Lens l) {R s t : Nat} (h : Hit l R s) (k : Hit l R t) : s = t := by
  obtain ⟨h1, h2, h3⟩ := h
  obtain ⟨k1, k2, k3⟩ := k
  by_cases e : s = t
  · exact e
  · rcases ahd_or (l := l) e with a | a
    · have := rows_apart hl h1 k1 a; omega
    · have := rows_apart hl k1 h1 a; omega

def wt (x : Int) : Nat := if 0 < x then 2 ^ (15 - x.toNat) else 0
def one (x : Int) : Nat := if 0 < x then 1 else 0
def usum (l : List Int) : Nat := (l.map wt).sum
def tsum (l : List Int) : Nat := (l.map one).sum

end Go.Proofs.YtkmefeihkmbngaaDoor

namespace Go.Proofs.YtkmefeihkmbngaaDoor
open Go.RowKit Go.Maps
set_option maxRecDepth 20000

def SI (w : World) (v : Value) (l : List Int) : Prop :=
  ∃ ao cap, v = .slice ao l.length cap ∧ l.length ≤ cap ∧ cap ≤ maxLen ∧ (ao = none → cap = 0) ∧ ∀ x, ao = some x → ∀ i, i < l.length → w.cell? (x.add i) = some (.int .i64 (l.getD i 0))

def OI (w : World) (base : Nat) (v : Value) (l : List Int) : Prop := w.ownsRow base 3 1 v l.length (l.map (Value.int .i64))

theorem SI.move {w w' : World} {v : Value} {l : List Int} (h : SI w v l) (hc : ∀ a u, w.cell? a = some u → v.ownBlock = some a.block → w'.cell? a = some u) : SI w' v l := by
  obtain ⟨ao, cap, rfl, h1, h2, h3, h4⟩ := h
  refine ⟨ao, cap, rfl, h1, h2, h3, fun x hx i hi => hc _ _ (h4 x hx i hi) ?_⟩
  subst hx; simp [Value.ownBlock, add_block]

theorem SI.below {w w' : World} {v : Value} {l : List Int} (h : SI w v l) (hb : Below w.heap.size w w') : SI w' v l :=
  h.move fun a _ ha _ => (hb.cell (World.block_lt_of_cell? w a ha)).trans ha

theorem OI.lt {w : World} {base : Nat} {v : Value} {l : List Int} (h : OI w base v l) : ∀ k, v.ownBlock = some k → base ≤ k ∧ k < w.heap.size := World.ownsRow.lt h

theorem OI.sb {w : World} {base : Nat} {v : Value} {l : List Int} (h : OI w base v l) : SI w v l := by
  have hc := @World.ownsRow.cells _ _ _ _ _ _ _ h
  rcases h.2 with ⟨rfl, h0⟩ | ⟨g, cap, cur, rfl, _, _, h3, h4, _, _⟩
  · obtain rfl : l = [] := List.eq_nil_of_length_eq_zero h0
    exact ⟨none, 0, rfl, Nat.le_refl _, Nat.zero_le _, fun _ => rfl, fun x hx => by cases hx⟩
  · refine ⟨some ⟨g, 0, none⟩, cap, rfl, h3, h4, (fun e => by cases e), fun x hx i hi => ?_⟩
    cases hx
    refine hc (g := g) rfl i _ ?_
    simp [hi]

theorem OI.shape {w : World} {base : Nat} {v : Value} {l : List Int} (h : OI w base v l) : ∃ a c, v = .slice a l.length c := by
  rcases h.2 with ⟨rfl, h0⟩ | ⟨g, cap, cur, rfl, _⟩
  · exact ⟨none, 0, by rw [h0]⟩
  · exact ⟨_, _, rfl⟩

theorem OI.move {w w' : World} {base : Nat} {v : Value} {l : List Int} (h : OI w base v l) (hb : ∀ k, v.ownBlock = some k → w'.heap[k]? = w.heap[k]?) : OI w' base v l := by
  refine ⟨h.1, ?_⟩
  rcases h.2 with h2 | ⟨g, cap, cur, rfl, h1, h2, r⟩
  · exact .inl h2
  · exact .inr ⟨g, cap, cur, rfl, h1, (hb g rfl).trans h2, r⟩

theorem OI.base {w : World} {base base' : Nat} {v : Value} {l : List Int} (h : OI w base v l) (hb : base' ≤ base) : OI w base' v l := by
  refine ⟨h.1, ?_⟩
  rcases h.2 with h2 | ⟨g, cap, cur, rfl, h1, r⟩
  · exact .inl h2
  · exact .inr ⟨g, cap, cur, rfl, Nat.le_trans hb h1, r⟩

theorem OI.below {w w' : World} {base B : Nat} {v : Value} {l : List Int} (h : OI w base v l) (hb : Below B w w') (hB : w.heap.size ≤ B) : OI w' base v l :=
  h.move fun k hk => hb.block k (Nat.lt_of_lt_of_le (h.lt k hk).2 hB)

theorem infoInt : (Tryd.prog.info? 3).map (fun i => (i.zero, i.size, i.bytes)) = some (some (.int .i64 0), 1, 8) := by kernel_rfl

theorem madeInts (n : Nat) : (madeCells #[Value.int .i64 0] n).toList = List.replicate n (Value.int .i64 0) := by
  have e : ∀ k : Nat, [Value.int IntKind.i64 0][k % 1]?.getD default = Value.int .i64 0 := fun k => by simp [Nat.mod_one]
  simp only [madeCells]
  simp [e, List.map_const']

theorem OI.of_full {w : World} {base g : Nat} {l : List Int} (hg : w.heap[g]? = some (.cells (l.map (Value.int .i64)).toArray 3 (0, 0))) (hb : base ≤ g) (hm : l.length ≤ maxLen) : OI w base (.slice (some ⟨g, 0, none⟩) l.length l.length) l :=
  ⟨by simp, .inr ⟨g, l.length, _, rfl, hb, hg, Nat.le_refl _, hm, by simp, List.take_of_length_le (by simp)⟩⟩

theorem run_appI_none (w : World) (tx ty : TypeId) (i : TypeInfo) (hi : Tryd.prog.info? 3 = some i) (x : Value) (hs : Src Tryd.prog i.size tx x 0 [] w) :
    (Builtin.append_ #[23, tx] ty #[.slice none 0 0, x]).run Tryd.prog w = .ok (.slice none 0 0) w := by
  rcases hs.kind with ⟨e', hk⟩ | hk <;> simp [Builtin.append_, run_underlying Tryd.underlying23, run_underlying hk, sizeOf, typeInfo, hi, hs.len, hs.cells]

theorem run_appI (w : World) (base : Nat) (tx ty : TypeId) (v x : Value) (l news : List Int) (hown : OI w base v l) (hs : Src Tryd.prog 1 tx x news.length (news.map (Value.int .i64)) w)
    (hb : l.length + news.length ≤ 17592186044416) (hbase : base ≤ w.heap.size) :
    ∃ v' w', (Builtin.append_ #[23, tx] ty #[v, x]).run Tryd.prog w = .ok v' w' ∧ OI w' base v' (l ++ news) ∧ Grew w w' v v' ∧ OI w' base v l := by
  obtain ⟨i, hi, hz, hsz, hby⟩ := info_parts infoInt
  have hs' : Src Tryd.prog i.size tx x news.length (news.map (Value.int .i64)) w := by rw [hsz]; exact hs
  have hmx : l.length + news.length ≤ maxLen := by unfold maxLen; omega
  have grown : ∀ old, old < l.length + news.length → (OI (w.drew.alloc (.cells ((l.map (Value.int .i64) ++ news.map (Value.int .i64)).toArray ++ Builtin.zeroCells (Value.int .i64 0).cells (grownCap w (l.length + news.length) old 3 - (l.length + news.length))) 3)) base
      (.slice (some ⟨w.heap.size, 0, none⟩) (l.length + news.length) (grownCap w (l.length + news.length) old 3)) (l ++ news)) := by
    intro old ho
    have hge := grownCap_ge w (l.length + news.length) old 3
    have hcm : grownCap w (l.length + news.length) old 3 ≤ maxLen := grownCap_le_maxLen w (l.length + news.length) old 3 hmx
    refine ⟨by simp, .inr ⟨w.heap.size, grownCap w (l.length + news.length) old 3, _, by rw [List.length_append], hbase, heap_alloc_new w.drew _, by rw [List.length_append]; exact hge, hcm, ?_, ?_⟩⟩
    · simp only [Array.size_append, List.size_toArray, List.length_append, List.length_map, size_zeroCells, Value.cells]
      simp
      omega
    · simp only [Array.toList_append, List.map_append]
      rw [List.take_append_of_le_length (by simp)]
      exact List.take_of_length_le (by simp)
  rcases hown.2 with ⟨rfl, h0⟩ | ⟨g, cap, cur, rfl, hbg, hg, hnc, hcm, hcs, htake⟩
  · obtain rfl : l = [] := List.eq_nil_of_length_eq_zero h0
    by_cases hm : news = []
    · subst hm
      exact ⟨_, _, run_appI_none w tx ty i hi x hs', hown, .inl ⟨rfl, rfl⟩, hown⟩
    · have hpos : 0 < news.length := List.length_pos_iff.2 hm
      have hr := run_append_grow_src (P := Tryd.prog) w 23 tx ty 3 i (.int .i64 0) Tryd.underlying23 hi hz none 0 0 [] (run_firstCells_none w.drew i.size 0 0 0) x news.length _ hs' (by omega) (by omega) (by rw [hby]; exact growslice_fits (by omega) (by simp at hb ⊢; omega))
      have hgr := grown 0 (by simp; omega)
      simp only [List.length_nil, Nat.zero_add, List.map_nil, List.nil_append] at hgr hr ⊢
      exact ⟨_, _, hr, hgr, .inr (.inl ⟨rfl, (Below.refl _ _).drew.alloc (Nat.le_refl _) _⟩), World.ownsRow_nil _ _ _ _⟩
  · by_cases hroom : l.length + news.length ≤ cap
    · have hfit : l.length * i.size + (news.map (Value.int .i64)).length ≤ cur.size := by rw [hsz, hcs]; simp; omega
      have hst := run_storeCells_at Tryd.prog g (l.length * i.size) 3 (news.map (Value.int .i64)) 0 cur w hg (by simpa using hfit) hs.one
      simp only [Nat.add_zero] at hst
      have hr : (Builtin.append_ #[23, tx] ty #[.slice (some ⟨g, 0, none⟩) l.length cap, x]).run Tryd.prog w =
          .ok (.slice (some ⟨g, 0, none⟩) (l.length + news.length) cap) (w.setRow g (cur.toList.take (l.length * i.size) ++ news.map (Value.int .i64) ++ cur.toList.drop (l.length * i.size + (news.map (Value.int .i64)).length)).toArray) := by
        rcases hs'.kind with ⟨e', hk⟩ | hk <;> simp [Builtin.append_, run_underlying Tryd.underlying23, run_underlying hk, sizeOf, typeInfo, hi, hs'.len, hroom, hs'.cells, Addr.add_lit, hst]
      refine ⟨_, _, hr, ⟨by simp, .inr ⟨g, cap, _, by rw [List.length_append], hbg, setRow_heap w g cur _ 3 _ hg, by rw [List.length_append]; exact hroom, hcm, ?_, ?_⟩⟩, .inr (.inr ⟨rfl, by simp [World.setRow], ⟨rfl, rfl, rfl, by simp, fun k _ hk => setRow_other w g k _ (fun e => hk (by simp [Value.ownBlock, e]))⟩⟩), ⟨by simp, .inr ⟨g, cap, _, rfl, hbg, setRow_heap w g cur _ 3 _ hg, hnc, hcm, ?_, ?_⟩⟩⟩
      · rw [hsz]
        simp only [List.size_toArray, List.length_append, List.length_take, List.length_drop, Array.length_toList, List.length_map]
        omega
      · rw [hsz, htake]
        simp only [List.map_append]
        rw [List.take_append_of_le_length (by simp)]
        exact List.take_of_length_le (by simp)
      · rw [hsz]
        simp only [List.size_toArray, List.length_append, List.length_take, List.length_drop, Array.length_toList, List.length_map]
        omega
      · rw [hsz, htake]
        simp only [List.append_assoc]
        rw [List.take_append_of_le_length (by simp)]
        exact List.take_of_length_le (by simp)
    · have holds : ∀ j u, (l.map (Value.int .i64))[j]? = some u → w.drew.cell? ((⟨g, 0, none⟩ : Addr).add j) = some u := World.ownsRow.cells hown (g := g) rfl
      have hr := run_append_grow_src (P := Tryd.prog) w 23 tx ty 3 i (.int .i64 0) Tryd.underlying23 hi hz (some ⟨g, 0, none⟩) l.length cap (l.map (Value.int .i64)) (run_firstCells_some w.drew i.size l.length ⟨g, 0, none⟩ l.length cap _ (by rw [hsz]; simp) holds) x news.length _ hs' (by omega) (by omega) (by rw [hby]; exact growslice_fits (by omega) (by omega))
      exact ⟨_, _, hr, grown cap (by omega), .inr (.inl ⟨rfl, (Below.refl _ _).drew.alloc (Nat.le_refl _) _⟩), hown.below ((Below.refl w.heap.size w).drew.alloc (Nat.le_refl _) _) (Nat.le_refl _)⟩

theorem wpList_appI {w : World} {ops : Array Oper} {rest : List Oper} {o : Oper} {a : Act} {Q : Exit → Act → World → Prop} (hgd : o.guard = none) (s x : Operand) (tx : TypeId)
    (ho : o.op = .call { callee := .builtin .append, args := #[s, x], argTypes := #[23, tx] }) (base : Nat) (v xv : Value) (l news : List Int) (hv : a.eval s = v) (hown : OI w base v l) (hx : a.eval x = xv) (hs : Src Tryd.prog 1 tx xv news.length (news.map (Value.int .i64)) w)
    (hb : l.length + news.length ≤ 17592186044416) (hbase : base ≤ w.heap.size)
    (h : ∀ v' w', OI w' base v' (l ++ news) → Grew w w' v v' → wpList Tryd.prog ops Q rest (a.put o.dst v') w') : wpList Tryd.prog ops Q (o :: rest) a w := by
  refine wpList_plain hgd fun K hK => ?_
  obtain ⟨v', w', hr, h2, h3, _⟩ := run_appI w base tx o.type v xv l news hown hs hb hbase
  unfold Oper.wp
  simp [execOp, ho, resolve, invoke, builtin, hv, hx, hr, Result.andThen]
  exact hK _ _ (h v' w' h2 h3)

theorem SI.src {w : World} {v : Value} {l : List Int} (h : SI w v l) : Src Tryd.prog 1 23 v l.length (l.map (Value.int .i64)) w := by
  obtain ⟨ao, cap, rfl, h1, h2, h3, h4⟩ := h
  cases ao with
  | none =>
    have hc := h3 rfl
    obtain rfl : l = [] := List.eq_nil_of_length_eq_zero (by omega)
    exact Src.ofNil w Tryd.underlying23 cap
  | some a =>
    refine Src.ofSlice w Tryd.underlying23 a l.length cap _ (by simp) (fun j u hj => ?_) (fun u hu => by obtain ⟨n, _, rfl⟩ := List.mem_map.1 hu; rfl)
    obtain ⟨hjl, rfl⟩ := List.getElem?_eq_some_iff.1 hj
    have hjl' : j < l.length := by simpa using hjl
    rw [h4 a rfl j hjl']
    simp [hjl']

theorem built_srcI (w : World) (cs : List Int) : Src Tryd.prog 1 23 (.slice (some ⟨w.heap.size, 0, none⟩) cs.length cs.length) cs.length (cs.map (Value.int .i64)) (w.alloc (.cells (cs.map (Value.int .i64)).toArray 3)) := by
  refine Src.ofSlice _ Tryd.underlying23 _ _ _ _ (by simp) (fun j u hj => ?_) (fun u hu => by obtain ⟨n, _, rfl⟩ := List.mem_map.1 hu; rfl)
  have e := heap_alloc_new w (.cells (cs.map (Value.int .i64)).toArray 3)
  rw [Addr.add_lit]
  unfold World.cell?
  simp only [e, Nat.zero_add]
  simpa using hj

theorem OI.alloc {w : World} {base : Nat} {v : Value} {l : List Int} (h : OI w base v l) (o : Obj) : OI (w.alloc o) base v l := h.move fun k hk => Below.heap_alloc w o k (h.lt k hk).2

theorem wpList_mkI {w : World} {ops : Array Oper} {rest : List Oper} {o : Oper} {a : Act} {Q : Exit → Act → World → Prop} (hg : o.guard = none) (l c : Operand) (hop : o.op = Op.makeSlice 23 l c)
    (kl kc : IntKind) (L C : Int) (n m : Nat) (hl : a.eval l = .int kl L) (hc : a.eval c = .int kc C) (hL : L = (n : Int)) (hC : C = (m : Int)) (hnm : n ≤ m) (b2 : m ≤ 17592186044416)
    (hK : ∀ w', w'.heap[w.heap.size]? = some (.cells (List.replicate m (Value.int .i64 0)).toArray 3 (0, 0)) → Below w.heap.size w w' → wpList Tryd.prog ops Q rest (a.put o.dst (.slice (some ⟨w.heap.size, 0, none⟩) n m)) w') :
    wpList Tryd.prog ops Q (o :: rest) a w := by
  obtain ⟨i0, hi, hz0, hz1, hz2⟩ := info_parts infoInt
  refine wpList_plain hg fun K hK' => ?_
  have hr := run_make (P := Tryd.prog) w 23 3 i0 (.int .i64 0) Tryd.underlying23 hi hz0 kl kc (n : Int) (m : Int) (by omega) (by omega) (by rw [hz2]; omega) (by omega)
  subst hL hC
  unfold Oper.wp
  simp [execOp, hop, hl, hc, hr, Result.andThen]
  refine hK' _ _ (hK _ ?_ ((Below.refl _ _).alloc (Nat.le_refl _) _))
  rw [heap_alloc_new, hz1, Nat.mul_one]
  have e : (madeCells (Value.int .i64 0).cells m) = (List.replicate m (Value.int .i64 0)).toArray := by
    apply Array.ext'
    exact madeInts m
  rw [e]

def eqI (l1 l2 : List Int) : Bool := decide (l1 = l2)

theorem isame_any (v1 v2 : Value) (l1 l2 : List Int) (w : World) (h1 : SI w v1 l1) (h2 : SI w v2 l2) :
    Calls Tryd.prog 11 #[v1, v2] w fun e w' => e = .returned (.bool (eqI l1 l2)) ∧ ∃ n, w' = w.drewN n := by
  obtain ⟨ao1, cap1, rfl, hlc1, hcm1, hnil1, hcell1⟩ := h1
  obtain ⟨ao2, cap2, rfl, hlc2, hcm2, hnil2, hcell2⟩ := h2
  unfold maxLen at hcm1 hcm2
  by_cases hne : l1.length = l2.length
  case neg =>
    have hd : ((l1.length : Int) == l2.length) = false := by simp; omega
    have hd' : ((l1.length : Int) != l2.length) = true := by simp; omega
    have HE : Hid (eqI l1 l2 = false) := by show _ = _; simp [eqI]; intro h; exact hne (by rw [h])
    clear hne
    go_enter Tryd.func11, Tryd.ntmps11
    go_wp2
    go_ret
    rw [HE.out]
    exact ⟨rfl, 0, rfl⟩
  case pos =>
    have hd' : ((l1.length : Int) != l2.length) = false := by simp; omega
    have HNE : Hid (l1.length = l2.length) := hne
    by_cases h0 : l1.length = 0
    · obtain rfl : l1 = [] := List.eq_nil_of_length_eq_zero h0
      obtain rfl : l2 = [] := List.eq_nil_of_length_eq_zero (by omega)
      clear hne hcell1 hcell2 hnil1 hnil2
      go_enter Tryd.func11, Tryd.ntmps11
      go_wp2
      refine wp_loop_rounds 1 ?_
      rw [rounds_succ]
      go_wp2
      go_ret
      exact ⟨by simp [eqI], 0, rfl⟩
    · cases ao1 with
      | none => have := hnil1 rfl; omega
      | some x1 =>
      cases ao2 with
      | none => have := hnil2 rfl; omega
      | some x2 =>
      obtain ⟨b1, o1, rfl⟩ := addr_lit (hcell1 x1 rfl 0 (by omega))
      obtain ⟨b2, o2, rfl⟩ := addr_lit (hcell2 x2 rfl 0 (by omega))
      have g1 : ∀ k, k < l1.length → w.cell? ⟨b1, o1 + k, none⟩ = some (.int .i64 (l1.getD k 0)) := fun k hk => by have := hcell1 _ rfl k hk; rwa [Addr.add_lit] at this
      have g2 : ∀ k, k < l1.length → w.cell? ⟨b2, o2 + k, none⟩ = some (.int .i64 (l2.getD k 0)) := fun k hk => by have := hcell2 _ rfl k (by omega); rwa [Addr.add_lit] at this
      clear hcell1 hcell2 hnil1 hnil2 hne
      have G1 : Hid (∀ k, k < l1.length → w.cell? ⟨b1, o1 + k, none⟩ = some (.int .i64 (l1.getD k 0))) := g1
      have G2 : Hid (∀ k, k < l1.length → w.cell? ⟨b2, o2 + k, none⟩ = some (.int .i64 (l2.getD k 0))) := g2
      clear g1 g2
      go_enter Tryd.func11, Tryd.ntmps11
      go_wp2
      go_loopw [5] (fun i wr => ∃ k n : Nat, k ≤ l1.length ∧ i = .int .i64 k ∧ wr = w.drewN n ∧ Hid (l1.take k = l2.take k)) (fun i _ => l1.length - (intOf i).toNat)
      case atStart => exact ⟨0, 0, Nat.zero_le _, rfl, rfl, rfl⟩
      case round =>
        obtain ⟨k, n, hk, rfl, rfl, HT⟩ := hrel
        by_cases hlt : k < l1.length
        · have hlt2 : (k : Int) < (l2.length : Int) := by have := HNE.out; omega
          obtain ⟨c1, hc1, HC1⟩ : ∃ c, w.cell? ⟨b1, o1 + k, none⟩ = some (.int .i64 c) ∧ Hid (c = l1.getD k 0) := ⟨_, G1.out k hlt, rfl⟩
          obtain ⟨c2, hc2, HC2⟩ : ∃ c, w.cell? ⟨b2, o2 + k, none⟩ = some (.int .i64 c) ∧ Hid (c = l2.getD k 0) := ⟨_, G2.out k hlt, rfl⟩
          have HK := take_step (l1 := l1) (l2 := l2) (k := k) (by omega) HNE.out HT.out
          by_cases hcc : c1 = c2
          · subst hcc
            go_wp2
            go_quiet (fail)
            go_wp2
            go_roundw
            case rel => exact ⟨k + 1, _, by omega, by go_num, rfl, HK.1 (by rw [← HC1.out, ← HC2.out])⟩
            case measure => simp [intOf]; omega
          · have hcb : (c1 != c2) = true := by simpa using hcc
            have HX : Hid (eqI l1 l2 = false) := by show _ = _; simp only [eqI, decide_eq_false_iff_not]; exact HK.2 (by rw [← HC1.out, ← HC2.out]; exact hcc)
            go_wp2
            go_quiet (fail)
            go_wp2
            go_ret
            rw [HX.out]
            exact ⟨rfl, _, World.drewN_drewN _ _ _⟩
        · go_wp2
          go_ret
          refine ⟨?_, n, rfl⟩
          have : l1 = l2 := by
            have h := HT.out
            rwa [List.take_of_length_le (by omega), List.take_of_length_le (by rw [← HNE.out]; omega)] at h
          simp [eqI, this]

end Go.Proofs.YtkmefeihkmbngaaDoor

namespace Go.Proofs.YtkmefeihkmbngaaDoor
open Go.RowKit
set_option maxRecDepth 20000

theorem num_any (n : Int) (w : World) : Calls Tryd.prog 9 #[.int .i64 n] w fun e w' => e = .returned (.int .i64 n) ∧ w' = w := by
  go_enter Tryd.func9, Tryd.ntmps9
  go_wp2
  go_ret
  exact ⟨rfl, rfl⟩

def Cnt (n : Int) : Prop := 0 ≤ n ∧ n ≤ 32
instance (n : Int) : Decidable (Cnt n) := by unfold Cnt; exact inferInstance
def Fit (v n : Int) : Prop := Cnt n ∧ v < 2 ^ n.toNat
instance (v n : Int) : Decidable (Fit v n) := by unfold Fit; exact inferInstance

end Go.Proofs.YtkmefeihkmbngaaDoor

namespace Go.Proofs.YtkmefeihkmbngaaDoor
open Go.RowKit Go.Maps
set_option maxRecDepth 20000

theorem SI.get {W w : World} {ao : Option Addr} {cap : Nat} {l : List Int} (h : SI W (.slice ao l.length cap) l) (hb : Below W.heap.size W w) {k : Nat} (hk : k < l.length) : ∃ b o, ao = some ⟨b, o, none⟩ ∧ w.cell? ⟨b, o + k, none⟩ = some (.int .i64 (l.getD k 0)) := by
  obtain ⟨ao', cap', he, h1, h2, h3, h4⟩ := h
  simp only [Value.slice.injEq] at he
  obtain ⟨rfl, -, rfl⟩ := he
  cases ao with
  | none => have := h3 rfl; omega
  | some x =>
    obtain ⟨b, o, rfl⟩ := addr_lit (h4 x rfl 0 (by omega))
    have hc := h4 _ rfl k hk
    have hbl := World.block_lt_of_cell? _ _ hc
    rw [Addr.add_lit] at hc hbl
    exact ⟨b, o, rfl, (hb.cell hbl).trans hc⟩

theorem SI.open {w : World} {v : Value} {l : List Int} (h : SI w v l) : ∃ ao cap, v = .slice ao l.length cap ∧ l.length ≤ cap ∧ cap ≤ 9223372036854775807 := by
  obtain ⟨ao, cap, rfl, h1, h2, _⟩ := h
  unfold maxLen at h2
  exact ⟨ao, cap, rfl, h1, by omega⟩

end Go.Proofs.YtkmefeihkmbngaaDoor

