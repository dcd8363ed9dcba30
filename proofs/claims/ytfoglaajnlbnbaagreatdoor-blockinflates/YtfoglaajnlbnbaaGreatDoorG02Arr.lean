import Derived.Test.YtfoglaajnlbnbaaGreatDoorG01Sym
import Derived.Test.YtfoglaajnlbnbaaGreatDoorG00Tkw
import Derived.Laws.CopyOwn
import Derived.Handy
import Derived.Laws.Rows
import Derived.Laws.Tables
namespace Go.Proofs.YtfoglaajnlbnbaaGreatDoor
set_option maxRecDepth 20000
set_option linter.unusedVariables false

noncomputable def lsy (x : Nat) : Nat := open Classical in if h : ∃ i, Lsy x i then h.choose else 0
noncomputable def dsy (x : Nat) : Nat := open Classical in if h : ∃ i, Dsy x i then h.choose else 0

theorem lsy_spec {x : Nat} (h : 3 ≤ x) : Lsy x (lsy x) := by
  have he := lsy_is h
  unfold lsy
  rw [dif_pos he]
  exact he.choose_spec

theorem dsy_spec {x : Nat} (h : 1 ≤ x) : Dsy x (dsy x) := by
  have he := dsy_is h
  unfold dsy
  rw [dif_pos he]
  exact he.choose_spec

def inc (l : List Int) (i : Nat) : List Int := l.set i (l.getD i 0 + 1)

theorem inc_len (l : List Int) (i : Nat) : (inc l i).length = l.length := by simp [inc]

noncomputable def litS (t : Tk) : Nat := if t.1 = 0 then t.2.2.toNat else 257 + lsy t.1.toNat

noncomputable def cl (l : List Int) (t : Tk) : List Int := inc l (litS t)
noncomputable def cd (d : List Int) (t : Tk) : List Int := if t.1 = 0 then d else inc d (dsy t.2.1.toNat)

noncomputable def cls (l : List Int) (R : List Tk) : List Int := R.foldl cl l
noncomputable def cdt (d : List Int) (R : List Tk) : List Int := R.foldl cd d

theorem cl_len (l : List Int) (t : Tk) : (cl l t).length = l.length := inc_len _ _
theorem cd_len (d : List Int) (t : Tk) : (cd d t).length = d.length := by unfold cd; split; rfl; exact inc_len _ _

theorem cls_len (R : List Tk) : ∀ l : List Int, (cls l R).length = l.length := by
  induction R with
  | nil => intro l; rfl
  | cons t R ih => intro l; show (cls (cl l t) R).length = _; rw [ih, cl_len]

theorem cdt_len (R : List Tk) : ∀ d : List Int, (cdt d R).length = d.length := by
  induction R with
  | nil => intro l; rfl
  | cons t R ih => intro l; show (cdt (cd l t) R).length = _; rw [ih, cd_len]

theorem cls_snoc (l : List Int) (R : List Tk) (t : Tk) : cls l (R ++ [t]) = cl (cls l R) t := by simp [cls]
theorem cdt_snoc (d : List Int) (R : List Tk) (t : Tk) : cdt d (R ++ [t]) = cd (cdt d R) t := by simp [cdt]

def Bt (t : Tk) : Prop := 0 ≤ t.2.2 ∧ t.2.2 < 256

theorem litS_in {t : Tk} (h : Snd t) (hb : Bt t) : litS t < 286 ∧ litS t ≠ 256 := by
  unfold litS
  obtain ⟨b0, b1⟩ := hb
  by_cases h0 : t.1 = 0
  · rw [if_pos h0]; omega
  · rw [if_neg h0]
    unfold Snd at h
    rw [if_neg h0] at h
    have := (lsy_spec (x := t.1.toNat) (by omega)).1
    omega

theorem dsy_in {t : Tk} (h : Snd t) (h0 : ¬ t.1 = 0) : dsy t.2.1.toNat < 30 := by
  unfold Snd at h
  rw [if_neg h0] at h
  exact (dsy_spec (x := t.2.1.toNat) (by omega)).1

theorem inc_set {l : List Int} {i j : Nat} {x : Int} (h : i ≠ j) : inc (l.set j x) i = (inc l i).set j x := by
  unfold inc
  rw [List.set_comm _ _ (fun e => h e)]
  congr 2
  simp [List.getD_eq_getElem?_getD, List.getElem?_set_ne (fun e => h e.symm)]

theorem cls_end (R : List Tk) : ∀ l : List Int, (∀ t ∈ R, Snd t ∧ Bt t) → cls (l.set 256 1) R = (cls l R).set 256 1 := by
  induction R with
  | nil => intro l _; rfl
  | cons t R ih =>
    intro l h
    have ht := h t (by simp)
    show cls (cl (l.set 256 1) t) R = (cls (cl l t) R).set 256 1
    have e : cl (l.set 256 1) t = (cl l t).set 256 1 := inc_set (litS_in ht.1 ht.2).2
    rw [e]
    exact ih _ fun u hu => h u (by simp [hu])

def Bd (l : List Int) (m : Nat) : Prop := ∀ i, 0 ≤ l.getD i 0 ∧ l.getD i 0 ≤ (m : Int)

theorem bd_inc {l : List Int} {m : Nat} (h : Bd l m) (j : Nat) : Bd (inc l j) (m + 1) := by
  intro i
  have hi := h i
  have hj := h j
  by_cases e : i = j
  · subst e
    by_cases hl : i < l.length
    · have e1 : (inc l i).getD i 0 = l.getD i 0 + 1 := by simp [inc, List.getD_eq_getElem?_getD, hl]
      rw [e1]
      omega
    · have e1 : (inc l i).getD i 0 = 0 := by
        rw [List.getD_eq_getElem?_getD, List.getElem?_eq_none (by rw [inc_len]; omega)]
        rfl
      rw [e1]
      omega
  · have e1 : (inc l j).getD i 0 = l.getD i 0 := by
      simp only [inc, List.getD_eq_getElem?_getD]
      rw [List.getElem?_set_ne (fun q => e q.symm)]
    rw [e1]
    omega

theorem bd_more {l : List Int} {m n : Nat} (h : Bd l m) (hn : m ≤ n) : Bd l n := fun i => by have := h i; omega

theorem bd_cls (R : List Tk) : ∀ (l : List Int) (m : Nat), Bd l m → Bd (cls l R) (m + R.length) := by
  induction R with
  | nil => intro l m h; exact h
  | cons t R ih =>
    intro l m h
    have := ih (cl l t) (m + 1) (bd_inc h _)
    exact bd_more this (by simp; omega)

theorem bd_cdt (R : List Tk) : ∀ (d : List Int) (m : Nat), Bd d m → Bd (cdt d R) (m + R.length) := by
  induction R with
  | nil => intro l m h; exact h
  | cons t R ih =>
    intro d m h
    have h1 : Bd (cd d t) (m + 1) := by
      unfold cd
      split
      · exact bd_more h (by omega)
      · exact bd_inc h _
    have := ih (cd d t) (m + 1) h1
    exact bd_more this (by simp; omega)
end Go.Proofs.YtfoglaajnlbnbaaGreatDoor

namespace Go.Proofs.YtfoglaajnlbnbaaGreatDoor
open Go.RowKit
set_option maxRecDepth 20000
set_option linter.unusedVariables false

theorem results_tmp4 {fn : Func} {t u v x : Tmp} (h : fn.results = #[.tmp t, .tmp u, .tmp v, .tmp x]) (tmps : Array Value) (P : Program) (w : World) :
    (results fn tmps).run P w = .ok (.tuple #[tmps.getD t undef, tmps.getD u undef, tmps.getD v undef, tmps.getD x undef]) w := by
  simp [results, h]

theorem lsym1_any (g x i : Nat) (w : World) (T : Ltab w) (hi : i < 29) (hc : w.cell? ⟨g, 0, none⟩ = some (.int .i64 (x : Int))) :
    Calls Tryz.prog 92 #[.int .i64 (i : Int), .pointer (some ⟨g, 0, none⟩)] w fun e w' => e = .returned (.bool (decide (x < LB i))) ∧ ∃ m, w' = w.drewN m := by
  have c0 := T.base i hi
  obtain ⟨B, hB⟩ : ∃ B, LB i = B := ⟨_, rfl⟩
  rw [hB] at c0 ⊢
  have hi' : (i : Int) < 29 := by omega
  by_cases h : x < B
  · have HD : Hid (decide (x < B) = true) := decide_eq_true h
    rw [HD.out]
    have h' : (x : Int) < (B : Int) := by omega
    have d : decide ((x : Int) < (B : Int)) = true := decide_eq_true h'
    clear hB
    go_enter Tryz.func92, Tryz.ntmps92
    go_wp2
    go_quiet (fail)
    go_wp2
    go_ret
    exact ⟨rfl, _, rfl⟩
  · have HD : Hid (decide (x < B) = false) := decide_eq_false h
    rw [HD.out]
    have h' : ¬ (x : Int) < (B : Int) := by omega
    have d : decide ((x : Int) < (B : Int)) = false := decide_eq_false h'
    clear hB
    go_enter Tryz.func92, Tryz.ntmps92
    go_wp2
    go_quiet (fail)
    go_wp2
    go_ret
    exact ⟨rfl, _, rfl⟩

set_option maxHeartbeats 1000000 in
theorem lsymbol_any (x i : Nat) (w : World) (T : Ltab w) (h : Lsy x i) (hx : 3 ≤ x) (hx2 : x ≤ 258) :
    Calls Tryz.prog 57 #[.int .i64 (x : Int)] w fun e w' => e = .returned (.tuple #[.int .i64 ((257 + i : Nat) : Int), .int .i64 (LF i : Int), .int .i64 ((x - LB i : Nat) : Int), .int .i64 0]) ∧ Below w.heap.size w w' := by
  obtain ⟨h1, h2, h3⟩ := h
  have HB1 : Hid (Below w.heap.size w (w.alloc (.cells #[.int .i64 (x : Int)] 3))) := (Below.refl _ _).alloc (Nat.le_refl _) _
  obtain ⟨w1, hw1⟩ : ∃ w1, w.alloc (.cells #[.int .i64 (x : Int)] 3) = w1 := ⟨_, rfl⟩
  have HN : Hid (w1.heap[w.heap.size]? = some (.cells #[.int .i64 (x : Int)] 3 (0, 0))) := by show _ = _; rw [← hw1]; exact heap_alloc_new w _
  rw [hw1] at HB1
  have c0 : w1.cell? ⟨w.heap.size, 0, none⟩ = some (.int .i64 (x : Int)) := by unfold World.cell?; rw [HN.out]; rfl
  have HT := hide (T.low HB1.out)
  have HSE : Hid (Calls Tryz.prog 91 #[.int .i64 29, .func (.func 92) #[] #[.pointer (some ⟨w.heap.size, 0, none⟩)]] w1 fun e w' => e = .returned (.int .i64 ((i + 1 : Nat) : Int)) ∧ ∃ n, w' = w1.drewN n) := by
    refine search_any 92 (.pointer (some ⟨w.heap.size, 0, none⟩)) 29 (i + 1) w1 (by omega) (by omega) Tryz.call92 fun j n hj => ?_
    refine (lsym1_any w.heap.size x j (w1.drewN n) (HT.out.low (below_drewN (Below.refl _ _) n)) hj c0).mono ?_
    rintro e w' ⟨rfl, m, rfl⟩
    refine ⟨?_, n + m, by rw [World.drewN_drewN]⟩
    congr 2
    by_cases hji : i + 1 ≤ j
    · rw [decide_eq_true hji, decide_eq_true (h3 j (by omega) hj)]
    · rw [decide_eq_false hji, decide_eq_false]
      by_cases e : j = i
      · subst e; omega
      · have := lb_up j i (by omega) (by omega) (by omega); omega
  have t0 := HT.out.base i h1
  have t1 := HT.out.more i h1
  obtain ⟨B, hB⟩ : ∃ B, LB i = B := ⟨_, rfl⟩
  obtain ⟨F, hF⟩ : ∃ F, LF i = F := ⟨_, rfl⟩
  rw [hB] at t0 h2 ⊢
  rw [hF] at t1 ⊢
  have hmf : ∀ (fn : Fn) (first cap : Array Value) (w : World), (Instr.makeFunc fn first cap).run Tryz.prog w = .ok (.func fn first cap) w := fun _ _ _ _ => rfl
  have g1 : ¬ (x : Int) < 3 := by omega
  have g2 : ¬ (258 : Int) < (x : Int) := by omega
  have g3 : ((i + 1 : Nat) : Int) - 1 = (i : Int) := by omega
  have g4 : (x : Int) - (B : Int) = ((x - B : Nat) : Int) := by omega
  have g5 : (257 : Int) + (i : Int) = ((257 + i : Nat) : Int) := by omega
  have hi' : (i : Int) < 29 := by omega
  have g6 : wrap64 ((x : Int) - (B : Int)) = ((x - B : Nat) : Int) := by unfold wrap64; omega
  have g7 : wrap64 ((257 : Int) + (i : Int)) = ((257 + i : Nat) : Int) := by unfold wrap64; omega
  obtain ⟨I1, hI1⟩ : ∃ z : Int, ((i + 1 : Nat) : Int) = z := ⟨_, rfl⟩
  have g8 : wrap64 (I1 - 1) = (i : Int) := by unfold wrap64; omega
  rw [hI1] at HSE g3
  obtain ⟨Z, hZ⟩ : ∃ z : Int, ((x - B : Nat) : Int) = z := ⟨_, rfl⟩
  obtain ⟨Y, hY⟩ : ∃ z : Int, ((257 + i : Nat) : Int) = z := ⟨_, rfl⟩
  rw [hZ] at g4 g6 ⊢
  rw [hY] at g5 g7 ⊢
  clear hI1 hZ hY hB hF h3
  go_enter Tryz.func57, Tryz.ntmps57
  go_wp2_with fail
  refine HSE.out.mono ?_
  rintro e w2 ⟨rfl, n, hw2⟩
  subst hw2
  clear hw1
  have p0 : (w1.drewN n).cell? ⟨w.heap.size, 0, none⟩ = some (.int .i64 (x : Int)) := c0
  have p1 : (w1.drewN n).cell? ⟨0, i * 2, none⟩ = some (.int .i64 (B : Int)) := t0
  have p2 : (w1.drewN n).cell? ⟨0, i * 2 + 1, none⟩ = some (.int .i64 (F : Int)) := t1
  have HB2 : Hid (∀ m, Below w.heap.size w ((w1.drewN n).drewN m)) := fun m => below_drewN (below_drewN HB1.out n) m
  go_wp2
  go_quiet (fail)
  go_wp2
  refine bodyPost_ret (results_tmp4 rfl _ _ _) rfl ?_
  exact ⟨rfl, HB2.out _⟩

theorem dsym1_any (g x i : Nat) (w : World) (T : Dtab w) (hi : i < 30) (hc : w.cell? ⟨g, 0, none⟩ = some (.int .i64 (x : Int))) :
    Calls Tryz.prog 93 #[.int .i64 (i : Int), .pointer (some ⟨g, 0, none⟩)] w fun e w' => e = .returned (.bool (decide (x < DB i))) ∧ ∃ m, w' = w.drewN m := by
  have c0 := T.base i hi
  obtain ⟨B, hB⟩ : ∃ B, DB i = B := ⟨_, rfl⟩
  rw [hB] at c0 ⊢
  have hi' : (i : Int) < 30 := by omega
  by_cases h : x < B
  · have HD : Hid (decide (x < B) = true) := decide_eq_true h
    rw [HD.out]
    have h' : (x : Int) < (B : Int) := by omega
    have d : decide ((x : Int) < (B : Int)) = true := decide_eq_true h'
    clear hB
    go_enter Tryz.func93, Tryz.ntmps93
    go_wp2
    go_quiet (fail)
    go_wp2
    go_ret
    exact ⟨rfl, _, rfl⟩
  · have HD : Hid (decide (x < B) = false) := decide_eq_false h
    rw [HD.out]
    have h' : ¬ (x : Int) < (B : Int) := by omega
    have d : decide ((x : Int) < (B : Int)) = false := decide_eq_false h'
    clear hB
    go_enter Tryz.func93, Tryz.ntmps93
    go_wp2
    go_quiet (fail)
    go_wp2
    go_ret
    exact ⟨rfl, _, rfl⟩

set_option maxHeartbeats 1000000 in
theorem dsymbol_any (x i : Nat) (w : World) (T : Dtab w) (h : Dsy x i) (hx : 1 ≤ x) (hx2 : x ≤ 32768) :
    Calls Tryz.prog 58 #[.int .i64 (x : Int)] w fun e w' => e = .returned (.tuple #[.int .i64 (i : Int), .int .i64 (DF i : Int), .int .i64 ((x - DB i : Nat) : Int), .int .i64 0]) ∧ Below w.heap.size w w' := by
  obtain ⟨h1, h2, h3⟩ := h
  have HB1 : Hid (Below w.heap.size w (w.alloc (.cells #[.int .i64 (x : Int)] 3))) := (Below.refl _ _).alloc (Nat.le_refl _) _
  obtain ⟨w1, hw1⟩ : ∃ w1, w.alloc (.cells #[.int .i64 (x : Int)] 3) = w1 := ⟨_, rfl⟩
  have HN : Hid (w1.heap[w.heap.size]? = some (.cells #[.int .i64 (x : Int)] 3 (0, 0))) := by show _ = _; rw [← hw1]; exact heap_alloc_new w _
  rw [hw1] at HB1
  have c0 : w1.cell? ⟨w.heap.size, 0, none⟩ = some (.int .i64 (x : Int)) := by unfold World.cell?; rw [HN.out]; rfl
  have HT := hide (T.low HB1.out)
  have HSE : Hid (Calls Tryz.prog 91 #[.int .i64 30, .func (.func 93) #[] #[.pointer (some ⟨w.heap.size, 0, none⟩)]] w1 fun e w' => e = .returned (.int .i64 ((i + 1 : Nat) : Int)) ∧ ∃ n, w' = w1.drewN n) := by
    refine search_any 93 (.pointer (some ⟨w.heap.size, 0, none⟩)) 30 (i + 1) w1 (by omega) (by omega) Tryz.call93 fun j n hj => ?_
    refine (dsym1_any w.heap.size x j (w1.drewN n) (HT.out.low (below_drewN (Below.refl _ _) n)) hj c0).mono ?_
    rintro e w' ⟨rfl, m, rfl⟩
    refine ⟨?_, n + m, by rw [World.drewN_drewN]⟩
    congr 2
    by_cases hji : i + 1 ≤ j
    · rw [decide_eq_true hji, decide_eq_true (h3 j (by omega) hj)]
    · rw [decide_eq_false hji, decide_eq_false]
      by_cases e : j = i
      · subst e; omega
      · have := db_up j i (by omega) (by omega) (by omega); omega
  have t0 := HT.out.base i h1
  have t1 := HT.out.more i h1
  obtain ⟨B, hB⟩ : ∃ B, DB i = B := ⟨_, rfl⟩
  obtain ⟨F, hF⟩ : ∃ F, DF i = F := ⟨_, rfl⟩
  rw [hB] at t0 h2 ⊢
  rw [hF] at t1 ⊢
  have hmf : ∀ (fn : Fn) (first cap : Array Value) (w : World), (Instr.makeFunc fn first cap).run Tryz.prog w = .ok (.func fn first cap) w := fun _ _ _ _ => rfl
  have g1 : ¬ (x : Int) < 1 := by omega
  have g2 : ¬ (32768 : Int) < (x : Int) := by omega
  have g3 : ((i + 1 : Nat) : Int) - 1 = (i : Int) := by omega
  have g4 : (x : Int) - (B : Int) = ((x - B : Nat) : Int) := by omega
  have hi' : (i : Int) < 30 := by omega
  have g6 : wrap64 ((x : Int) - (B : Int)) = ((x - B : Nat) : Int) := by unfold wrap64; omega
  obtain ⟨I1, hI1⟩ : ∃ z : Int, ((i + 1 : Nat) : Int) = z := ⟨_, rfl⟩
  have g8 : wrap64 (I1 - 1) = (i : Int) := by unfold wrap64; omega
  rw [hI1] at HSE g3
  obtain ⟨Z, hZ⟩ : ∃ z : Int, ((x - B : Nat) : Int) = z := ⟨_, rfl⟩
  rw [hZ] at g4 g6 ⊢
  clear hI1 hZ hB hF h3
  go_enter Tryz.func58, Tryz.ntmps58
  go_wp2_with fail
  refine HSE.out.mono ?_
  rintro e w2 ⟨rfl, n, hw2⟩
  subst hw2
  clear hw1
  have p0 : (w1.drewN n).cell? ⟨w.heap.size, 0, none⟩ = some (.int .i64 (x : Int)) := c0
  have p1 : (w1.drewN n).cell? ⟨1, i * 2, none⟩ = some (.int .i64 (B : Int)) := t0
  have p2 : (w1.drewN n).cell? ⟨1, i * 2 + 1, none⟩ = some (.int .i64 (F : Int)) := t1
  have HB2 : Hid (∀ m, Below w.heap.size w ((w1.drewN n).drewN m)) := fun m => below_drewN (below_drewN HB1.out n) m
  go_wp2
  go_quiet (fail)
  go_wp2
  refine bodyPost_ret (results_tmp4 rfl _ _ _) rfl ?_
  exact ⟨rfl, HB2.out _⟩

end Go.Proofs.YtfoglaajnlbnbaaGreatDoor

namespace Go.Proofs.YtfoglaajnlbnbaaGreatDoor

def Lens (l : List Int) : Prop := l.length ≤ 288 ∧ ∀ x ∈ l, 0 ≤ x ∧ x ≤ 15

def ln (l : List Int) (s : Nat) : Nat := (l.getD s 0).toNat
def cn (l : List Int) (n : Nat) : Nat := if n = 0 then 0 else l.count (n : Int)
def fi (l : List Int) : Nat → Nat
  | 0 => 0
  | n + 1 => 2 * (fi l n + cn l n)
def us (l : List Int) : Nat → Nat
  | 0 => 0
  | n + 1 => us l n + cn l n * 2 ^ (15 - n)
def sh (l : List Int) : Nat → Nat
  | 0 => 0
  | n + 1 => sh l n + cn l n
def rk (l : List Int) (s : Nat) : Nat := (l.take s).count (l.getD s 0)
def wd (l : List Int) (s : Nat) : Nat := if ln l s = 0 then 0 else fi l (ln l s) + rk l s
def Has (l : List Int) (s : Nat) : Prop := s < l.length ∧ 0 < ln l s

theorem npow_pos (n : Nat) : 0 < 2 ^ n := Nat.pow_pos (by decide)

theorem getD_mem {l : List Int} {s : Nat} (h : s < l.length) : l.getD s 0 ∈ l := by
  have : l.getD s 0 = l[s] := by simp [h]
  rw [this]; exact List.getElem_mem _

theorem Lens.at {l : List Int} (h : Lens l) (s : Nat) : 0 ≤ l.getD s 0 ∧ l.getD s 0 ≤ 15 := by
  by_cases hs : s < l.length
  · exact h.2 _ (getD_mem hs)
  · have : l.getD s 0 = 0 := by simp [List.getD, List.getElem?_eq_none (Nat.le_of_not_lt hs)]
    rw [this]; decide

theorem Lens.ln {l : List Int} (h : Lens l) (s : Nat) : l.getD s 0 = (Proofs.YtfoglaajnlbnbaaGreatDoor.ln l s : Int) ∧ Proofs.YtfoglaajnlbnbaaGreatDoor.ln l s ≤ 15 := by
  have := h.at s
  unfold Proofs.YtfoglaajnlbnbaaGreatDoor.ln
  omega

theorem fi_us (l : List Int) : ∀ n, n ≤ 15 → fi l n * 2 ^ (15 - n) = us l n
  | 0, _ => by simp [fi, us]
  | n + 1, h => by
    have ih := fi_us l n (by omega)
    simp only [fi, us]
    rw [← ih, show 15 - n = (15 - (n + 1)) + 1 by omega, Nat.pow_succ, ← Nat.add_mul]
    rw [Nat.mul_comm 2 (fi l n + cn l n), Nat.mul_assoc, Nat.mul_comm 2]

theorem fi_end (l : List Int) {n : Nat} (h : n ≤ 15) : (fi l n + cn l n) * 2 ^ (15 - n) = us l (n + 1) := by
  rw [Nat.add_mul, fi_us l n h]; rfl

theorem us_step (l : List Int) (n : Nat) : us l n ≤ us l (n + 1) := by simp only [us]; omega

theorem us_mono (l : List Int) {n m : Nat} (h : n ≤ m) : us l n ≤ us l m := by
  induction m with
  | zero => have : n = 0 := by omega
            subst this; exact Nat.le_refl _
  | succ m ih =>
    by_cases e : n = m + 1
    · subst e; exact Nat.le_refl _
    · exact Nat.le_trans (ih (by omega)) (us_step l m)

theorem sh_succ (l : List Int) (n : Nat) : sh l (n + 1) = sh l n + cn l n := rfl

theorem sh_mono (l : List Int) {n m : Nat} (h : n ≤ m) : sh l n ≤ sh l m := by
  induction m with
  | zero => have : n = 0 := by omega
            subst this; exact Nat.le_refl _
  | succ m ih =>
    by_cases e : n = m + 1
    · subst e; exact Nat.le_refl _
    · have := ih (by omega)
      simp only [sh]; omega

theorem count_take_succ (l : List Int) (x : Int) {s : Nat} (h : s < l.length) : (l.take (s + 1)).count x = (l.take s).count x + if l.getD s 0 = x then 1 else 0 := by
  have e : l.getD s 0 = l[s] := by simp [h]
  rw [List.take_succ_eq_append_getElem h, List.count_append, e]
  by_cases hx : l[s] = x
  · simp [hx]
  · simp [hx]

theorem count_take_le (l : List Int) (x : Int) (s : Nat) : (l.take s).count x ≤ l.count x := by
  conv => rhs; rw [← List.take_append_drop s l]
  rw [List.count_append]; omega

theorem count_take_mono (l : List Int) (x : Int) {s t : Nat} (h : s ≤ t) : (l.take s).count x ≤ (l.take t).count x := by
  have := count_take_le (l.take t) x s
  rwa [List.take_take, Nat.min_eq_left h] at this

theorem count_ex (x : Int) : ∀ (l : List Int) (k : Nat), k < l.count x → ∃ s, s < l.length ∧ l.getD s 0 = x ∧ (l.take s).count x = k
  | [], k, h => by simp at h
  | a :: l, k, h => by
    by_cases e : a = x
    · subst e
      cases k with
      | zero => exact ⟨0, by simp, by simp, by simp⟩
      | succ k =>
        obtain ⟨s, h1, h2, h3⟩ := count_ex a l k (by simp at h; omega)
        exact ⟨s + 1, by simp; omega, by simpa using h2, by simp [h3]⟩
    · obtain ⟨s, h1, h2, h3⟩ := count_ex x l k (by rw [List.count_cons] at h; simpa [e] using h)
      exact ⟨s + 1, by simp; omega, by simpa using h2, by rw [List.take_succ_cons, List.count_cons]; simp [h3, e]⟩

theorem Has.cn {l : List Int} (hl : Lens l) {s : Nat} (h : Has l s) : Proofs.YtfoglaajnlbnbaaGreatDoor.cn l (ln l s) = l.count (l.getD s 0) := by
  unfold Proofs.YtfoglaajnlbnbaaGreatDoor.cn
  rw [if_neg (by have := h.2; omega), (hl.ln s).1]

theorem Has.rk_lt {l : List Int} (hl : Lens l) {s : Nat} (h : Has l s) : rk l s < Proofs.YtfoglaajnlbnbaaGreatDoor.cn l (ln l s) := by
  rw [h.cn hl]
  have h1 := count_take_succ l (l.getD s 0) h.1
  have h2 := count_take_le l (l.getD s 0) (s + 1)
  unfold rk
  simp at h1
  simp at h2 ⊢
  omega

theorem rk_mono {l : List Int} {s t : Nat} (hs : s < l.length) (hst : s < t) (he : l.getD s 0 = l.getD t 0) : rk l s < rk l t := by
  unfold rk
  have h1 := count_take_succ l (l.getD s 0) hs
  have h2 := count_take_mono l (l.getD s 0) (show s + 1 ≤ t by omega)
  rw [← he]
  simp at h1
  simp at h2 ⊢
  omega

theorem rk_ex {l : List Int} {n k : Nat} (hn : 0 < n) (h : k < cn l n) : ∃ s, Has l s ∧ ln l s = n ∧ rk l s = k := by
  unfold cn at h
  rw [if_neg (by omega)] at h
  obtain ⟨s, h1, h2, h3⟩ := count_ex (n : Int) l k h
  have e : ln l s = n := by unfold ln; rw [h2]; rfl
  exact ⟨s, ⟨h1, by omega⟩, e, by unfold rk; rw [h2]; exact h3⟩

theorem Has.wd {l : List Int} {s : Nat} (h : Has l s) : Proofs.YtfoglaajnlbnbaaGreatDoor.wd l s = fi l (ln l s) + rk l s := if_neg (by have := h.2; omega)

def pl (l : List Int) (s : Nat) : Nat := wd l s * 2 ^ (15 - ln l s)

theorem Has.start {l : List Int} (hl : Lens l) {s : Nat} (h : Has l s) : us l (ln l s) ≤ pl l s := by
  unfold pl
  rw [h.wd, ← fi_us l _ (hl.ln s).2]
  exact Nat.mul_le_mul_right _ (by omega)

theorem Has.stop {l : List Int} (hl : Lens l) {s : Nat} (h : Has l s) : pl l s + 2 ^ (15 - ln l s) ≤ us l (ln l s + 1) := by
  unfold pl
  rw [h.wd, ← fi_end l (hl.ln s).2, ← Nat.succ_mul]
  exact Nat.mul_le_mul_right _ (by have := h.rk_lt hl; omega)

def Ahd (l : List Int) (s t : Nat) : Prop := ln l s < ln l t ∨ (ln l s = ln l t ∧ s < t)

theorem ahd_or {l : List Int} {s t : Nat} (h : s ≠ t) : Ahd l s t ∨ Ahd l t s := by unfold Ahd; omega

theorem rows_apart {l : List Int} (hl : Lens l) {s t : Nat} (hs : Has l s) (ht : Has l t) (h : Ahd l s t) : pl l s + 2 ^ (15 - ln l s) ≤ pl l t := by
  rcases h with h | ⟨h, hst⟩
  · have h1 := hs.stop hl
    have h2 := ht.start hl
    have h3 := us_mono l (show ln l s + 1 ≤ ln l t by omega)
    omega
  · have he : l.getD s 0 = l.getD t 0 := by rw [(hl.ln s).1, (hl.ln t).1, h]
    have hr := rk_mono hs.1 hst he
    unfold pl
    rw [hs.wd, ht.wd, h, ← Nat.succ_mul]
    exact Nat.mul_le_mul_right _ (by omega)

def Hit (l : List Int) (R s : Nat) : Prop := Has l s ∧ pl l s ≤ R ∧ R < pl l s + 2 ^ (15 - ln l s)

theorem Hit.one {l : List Int} (hl : Lens l) {R s t : Nat} (h : Hit l R s) (k : Hit l R t) : s = t := by
  obtain ⟨h1, h2, h3⟩ := h
  obtain ⟨k1, k2, k3⟩ := k
  by_cases e : s = t
  · exact e
  · rcases ahd_or (l := l) e with a | a
    · have := rows_apart hl h1 k1 a; omega
    · have := rows_apart hl k1 h1 a; omega

theorem div_between {R w p : Nat} (hp : 0 < p) : R / p = w ↔ w * p ≤ R ∧ R < w * p + p := by
  constructor
  · intro h
    subst h
    have := Nat.div_add_mod R p
    have h2 := Nat.mod_lt R hp
    rw [Nat.mul_comm] at this
    omega
  · rintro ⟨h1, h2⟩
    apply Nat.le_antisymm
    · apply Nat.le_of_lt_succ
      rw [Nat.div_lt_iff_lt_mul hp, Nat.succ_mul]
      omega
    · rw [Nat.le_div_iff_mul_le hp]; omega

theorem hit_iff {l : List Int} {R s : Nat} : Hit l R s ↔ Has l s ∧ R / 2 ^ (15 - ln l s) = wd l s := by
  unfold Hit
  rw [div_between (npow_pos _)]
  rfl

theorem below_end {l : List Int} {R n : Nat} (hn : n ≤ 15) : R / 2 ^ (15 - n) < fi l n + cn l n ↔ R < us l (n + 1) := by
  rw [Nat.div_lt_iff_lt_mul (npow_pos _), fi_end l hn]

theorem hit_at {l : List Int} {R n : Nat} (hn : n ≤ 15) (h0 : us l n ≤ R) (h1 : R < us l (n + 1)) :
    ∃ s, Hit l R s ∧ ln l s = n ∧ R / 2 ^ (15 - n) = fi l n + rk l s := by
  have hz : 0 < n := by
    rcases Nat.eq_zero_or_pos n with e | e
    · subst e; simp [us, cn] at h1
    · exact e
  have h2 := (below_end (l := l) hn).2 h1
  have h3 : fi l n ≤ R / 2 ^ (15 - n) := by
    rw [Nat.le_div_iff_mul_le (npow_pos _), fi_us l n hn]; exact h0
  obtain ⟨s, a1, a2, a3⟩ := rk_ex (l := l) hz (k := R / 2 ^ (15 - n) - fi l n) (by omega)
  have e : R / 2 ^ (15 - n) = fi l n + rk l s := by omega
  exact ⟨s, hit_iff.2 ⟨a1, by rw [a1.wd, a2]; exact e⟩, a2, e⟩

theorem Hit.below {l : List Int} (hl : Lens l) {R s : Nat} (h : Hit l R s) : us l (ln l s) ≤ R ∧ R < us l (ln l s + 1) := by
  have h1 := h.1.start hl
  have h2 := h.1.stop hl
  have := h.2
  omega

theorem Hit.top {l : List Int} (hl : Lens l) {R s : Nat} (h : Hit l R s) : R < us l 16 := by
  have h1 := (h.below hl).2
  have h2 := us_mono l (show ln l s + 1 ≤ 16 by have := (hl.ln s).2; omega)
  omega

theorem word_lt {l : List Int} (hl : Lens l) (hu : us l 16 ≤ 32768) {s : Nat} : wd l s < 2 ^ ln l s := by
  by_cases h0 : ln l s = 0
  · unfold wd; rw [if_pos h0, h0]; decide
  · by_cases hs : s < l.length
    · have h : Has l s := ⟨hs, by omega⟩
      have h1 := h.stop hl
      have h2 := us_mono l (show ln l s + 1 ≤ 16 by have := (hl.ln s).2; omega)
      have h3 : (wd l s + 1) * 2 ^ (15 - ln l s) ≤ 2 ^ ln l s * 2 ^ (15 - ln l s) := by
        rw [← Nat.pow_add, show ln l s + (15 - ln l s) = 15 by have := (hl.ln s).2; omega, Nat.succ_mul]
        have : pl l s = wd l s * 2 ^ (15 - ln l s) := rfl
        omega
      exact Nat.le_of_mul_le_mul_right h3 (npow_pos _)
    · exfalso
      apply h0
      unfold ln
      simp [List.getD, List.getElem?_eq_none (Nat.le_of_not_lt hs)]

def ix (l : List Int) (s : Nat) : Nat := sh l (ln l s) + rk l s

theorem ix_lt {l : List Int} (hl : Lens l) {s : Nat} (h : Has l s) : ix l s < sh l 16 := by
  have h1 := h.rk_lt hl
  have h2 := sh_mono l (show ln l s + 1 ≤ 16 by have := (hl.ln s).2; omega)
  rw [sh_succ] at h2
  unfold ix
  omega

theorem ix_inj {l : List Int} (hl : Lens l) {s t : Nat} (hs : Has l s) (ht : Has l t) (he : ix l s = ix l t) : s = t := by
  by_cases e : s = t
  · exact e
  · have key : ∀ s t, Has l s → Has l t → Ahd l s t → ix l s < ix l t := by
      intro s t hs ht h
      unfold ix
      rcases h with h | ⟨h, hst⟩
      · have h1 := hs.rk_lt hl
        have h2 := sh_mono l (show ln l s + 1 ≤ ln l t by omega)
        rw [sh_succ] at h2
        omega
      · have he : l.getD s 0 = l.getD t 0 := by rw [(hl.ln s).1, (hl.ln t).1, h]
        have := rk_mono hs.1 hst he
        rw [h]; omega
    rcases ahd_or (l := l) e with a | a
    · have := key s t hs ht a; omega
    · have := key t s ht hs a; omega

def wt (x : Int) : Nat := if 0 < x then 2 ^ (15 - x.toNat) else 0
def one (x : Int) : Nat := if 0 < x then 1 else 0
def usum (l : List Int) : Nat := (l.map wt).sum
def tsum (l : List Int) : Nat := (l.map one).sum

theorem cn_cons (a : Int) (l : List Int) (n : Nat) : cn (a :: l) n = cn l n + if n ≠ 0 ∧ a = (n : Int) then 1 else 0 := by
  unfold cn
  by_cases h : n = 0
  · simp [h]
  · rw [if_neg h, if_neg h, List.count_cons]
    by_cases e : a = (n : Int)
    · simp [e, h]
    · simp [e]

theorem us_cons (a : Int) (l : List Int) : ∀ k, us (a :: l) k = us l k + if 0 < a ∧ a < (k : Int) then 2 ^ (15 - a.toNat) else 0
  | 0 => by
    rw [if_neg (by omega)]; rfl
  | k + 1 => by
    simp only [us]
    rw [us_cons a l k, cn_cons]
    by_cases e : a = (k : Int)
    · by_cases h0 : k = 0
      · subst h0; simp [e]
      · rw [if_neg (by omega), if_pos ⟨h0, e⟩, if_pos (by omega), Nat.add_mul]
        have : a.toNat = k := by omega
        rw [this]; omega
    · rw [if_neg (c := k ≠ 0 ∧ a = (k : Int)) (fun h => e h.2), Nat.add_zero]
      by_cases hh : 0 < a ∧ a < (k : Int)
      · rw [if_pos hh, if_pos (by omega)]; omega
      · rw [if_neg hh, if_neg (by omega)]; omega

theorem sh_cons (a : Int) (l : List Int) : ∀ k, sh (a :: l) k = sh l k + if 0 < a ∧ a < (k : Int) then 1 else 0
  | 0 => by
    rw [if_neg (by omega)]; rfl
  | k + 1 => by
    simp only [sh]
    rw [sh_cons a l k, cn_cons]
    by_cases e : a = (k : Int)
    · by_cases h0 : k = 0
      · subst h0; simp [e]
      · rw [if_neg (by omega), if_pos ⟨h0, e⟩, if_pos (by omega)]
        omega
    · rw [if_neg (c := k ≠ 0 ∧ a = (k : Int)) (fun h => e h.2), Nat.add_zero]
      by_cases hh : 0 < a ∧ a < (k : Int)
      · rw [if_pos hh, if_pos (by omega)]; omega
      · rw [if_neg hh, if_neg (by omega)]; omega

theorem us_nil (k : Nat) : us [] k = 0 := by
  induction k with
  | zero => rfl
  | succ k ih => simp [us, ih, cn]

theorem sh_nil (k : Nat) : sh [] k = 0 := by
  induction k with
  | zero => rfl
  | succ k ih => simp [sh, ih, cn]

theorem us_sum : ∀ {l : List Int}, (∀ x ∈ l, 0 ≤ x ∧ x ≤ 15) → us l 16 = usum l
  | [], _ => by rw [us_nil]; rfl
  | a :: l, h => by
    rw [us_cons, us_sum (l := l) (fun x hx => h x (by simp [hx]))]
    have ha := h a (by simp)
    unfold usum wt
    simp only [List.map_cons, List.sum_cons]
    by_cases hz : 0 < a
    · rw [if_pos ⟨hz, by omega⟩, if_pos hz]; omega
    · rw [if_neg (fun h => hz h.1), if_neg hz]; omega

theorem sh_sum : ∀ {l : List Int}, (∀ x ∈ l, 0 ≤ x ∧ x ≤ 15) → sh l 16 = tsum l
  | [], _ => by rw [sh_nil]; rfl
  | a :: l, h => by
    rw [sh_cons, sh_sum (l := l) (fun x hx => h x (by simp [hx]))]
    have ha := h a (by simp)
    unfold tsum one
    simp only [List.map_cons, List.sum_cons]
    by_cases hz : 0 < a
    · rw [if_pos ⟨hz, by omega⟩, if_pos hz]; omega
    · rw [if_neg (fun h => hz h.1), if_neg hz]; omega

def shp (l : List Int) : Int := if tsum l = 0 then 0 else if tsum l = 1 ∧ usum l = 16384 then 1 else if 32768 < usum l then 3 else if usum l = 32768 then 4 else 2

theorem sh_le (l : List Int) (n : Nat) : sh l n ≤ l.length := by
  induction l with
  | nil => rw [sh_nil]; exact Nat.le_refl _
  | cons a l ih =>
    rw [sh_cons, List.length_cons]
    split <;> omega

theorem cn_le (l : List Int) (n : Nat) : cn l n ≤ l.length := by
  unfold cn
  split
  · omega
  · exact List.count_le_length

theorem sh_sum_ge (l : List Int) {n : Nat} (h : n < 16) : cn l n ≤ sh l 16 := by
  have := sh_mono l (show n + 1 ≤ 16 by omega)
  rw [sh_succ] at this
  omega

theorem tsum_zero {l : List Int} (hl : Lens l) : tsum l = 0 ↔ ∀ n, n < 16 → cn l n = 0 := by
  rw [← sh_sum hl.2]
  constructor
  · intro h n hn
    have := sh_sum_ge l hn
    omega
  · intro h
    have : ∀ n, n ≤ 16 → sh l n = 0 := by
      intro n
      induction n with
      | zero => intro _; rfl
      | succ n ih => intro hn; simp only [sh]; rw [ih (by omega), h n (by omega)]
    exact this 16 (by omega)

theorem single_iff {l : List Int} (hl : Lens l) : (tsum l = 1 ∧ usum l = 16384) ↔ (∀ n, n < 16 → cn l n = if n = 1 then 1 else 0) := by
  rw [← sh_sum hl.2, ← us_sum hl.2]
  constructor
  · rintro ⟨h1, h2⟩ n hn
    have ex : ∃ m, m < 16 ∧ 0 < cn l m := by
      by_cases e : ∃ m, m < 16 ∧ 0 < cn l m
      · exact e
      · have : tsum l = 0 := (tsum_zero hl).2 fun n hn => by
          rcases Nat.eq_zero_or_pos (cn l n) with z | z
          · exact z
          · exact absurd ⟨n, hn, z⟩ e
        rw [← sh_sum hl.2] at this
        omega
    obtain ⟨m, hm, hp⟩ := ex
    have one : ∀ k, k < 16 → k ≠ m → cn l k = 0 := by
      intro k hk hne
      have two : ∀ a b, a < b → b < 16 → cn l a + cn l b ≤ sh l 16 := by
        intro a b hab hb
        have h1 := sh_mono l (show a + 1 ≤ b by omega)
        have h2 := sh_mono l (show b + 1 ≤ 16 by omega)
        rw [sh_succ] at h1 h2
        omega
      rcases Nat.lt_or_gt_of_ne hne with hlt | hgt
      · have := two k m hlt hm; omega
      · have := two m k hgt hk; omega
    have cm : cn l m = 1 := by
      have := sh_sum_ge l hm
      omega
    have hus : us l 16 = 2 ^ (15 - m) := by
      have : ∀ n, n ≤ 16 → us l n = if m < n then 2 ^ (15 - m) else 0 := by
        intro n
        induction n with
        | zero => intro _; simp [us]
        | succ n ih =>
          intro hn
          simp only [us]
          rw [ih (by omega)]
          by_cases e : n = m
          · subst e; simp [cm]
          · rw [one n (by omega) e]
            by_cases hlt : m < n
            · rw [if_pos hlt, if_pos (by omega)]; omega
            · rw [if_neg hlt, if_neg (by omega)]; omega
      rw [this 16 (by omega), if_pos hm]
    rw [h2] at hus
    have hm1 : m = 1 := by
      have : ∀ m : Fin 16, 16384 = 2 ^ (15 - m.val) → m.val = 1 := by decide
      exact this ⟨m, hm⟩ hus
    subst hm1
    by_cases e : n = 1
    · rw [e, if_pos rfl]; exact cm
    · rw [if_neg e]; exact one n hn e
  · intro h
    have hs : ∀ n, n ≤ 16 → sh l n = if 1 < n then 1 else 0 := by
      intro n
      induction n with
      | zero => intro _; simp [sh]
      | succ n ih =>
        intro hn
        simp only [sh]
        rw [ih (by omega), h n (by omega)]
        by_cases e : n = 1
        · subst e; rfl
        · rw [if_neg e]
          by_cases hlt : 1 < n
          · rw [if_pos hlt, if_pos (by omega)]
          · rw [if_neg hlt, if_neg (by omega)]
    have hu : ∀ n, n ≤ 16 → us l n = if 1 < n then 16384 else 0 := by
      intro n
      induction n with
      | zero => intro _; simp [us]
      | succ n ih =>
        intro hn
        simp only [us]
        rw [ih (by omega), h n (by omega)]
        by_cases e : n = 1
        · subst e; rfl
        · rw [if_neg e]
          by_cases hlt : 1 < n
          · rw [if_pos hlt, if_pos (by omega)]; omega
          · rw [if_neg hlt, if_neg (by omega)]; omega
    exact ⟨by rw [hs 16 (by omega)]; rfl, by rw [hu 16 (by omega)]; rfl⟩

theorem us_bound {l : List Int} (hl : Lens l) : us l 16 ≤ 288 * 16384 := by
  rw [us_sum hl.2]
  have : ∀ l : List Int, usum l ≤ l.length * 16384 := by
    intro l
    induction l with
    | nil => simp [usum]
    | cons a l ih =>
      have : wt a ≤ 16384 := by
        unfold wt
        by_cases h : 0 < a
        · rw [if_pos h]
          have : 2 ^ (15 - a.toNat) ≤ 2 ^ 14 := Nat.pow_le_pow_right (by decide) (by omega)
          omega
        · rw [if_neg h]; omega
      simp only [usum, List.map_cons, List.sum_cons, List.length_cons] at ih ⊢
      omega
  exact Nat.le_trans (this l) (Nat.mul_le_mul_right _ hl.1)

theorem fi_bound {l : List Int} (hl : Lens l) : ∀ n, n ≤ 15 → fi l n + 576 ≤ 288 * 2 ^ (n + 1)
  | 0, _ => by simp [fi]
  | n + 1, h => by
    have ih := fi_bound hl n (by omega)
    have hc := cn_le l n
    have h2 := hl.1
    simp only [fi]
    rw [Nat.pow_succ 2 (n + 1)]
    omega

theorem fi_top {l : List Int} (hl : Lens l) {n : Nat} (h : n ≤ 15) : fi l n ≤ 18874368 := by
  have h1 := fi_bound hl n h
  have h2 : 2 ^ (n + 1) ≤ 2 ^ 16 := Nat.pow_le_pow_right (by decide) (by omega)
  omega

end Go.Proofs.YtfoglaajnlbnbaaGreatDoor

namespace Go.Proofs.YtfoglaajnlbnbaaGreatDoor
open Go.RowKit Go.Maps
set_option maxRecDepth 20000

def SI (w : World) (v : Value) (l : List Int) : Prop :=
  ∃ ao cap, v = .slice ao l.length cap ∧ l.length ≤ cap ∧ cap ≤ maxLen ∧ (ao = none → cap = 0) ∧ ∀ x, ao = some x → ∀ i, i < l.length → w.cell? (x.add i) = some (.int .i64 (l.getD i 0))

def OI (w : World) (base : Nat) (v : Value) (l : List Int) : Prop := w.ownsRow base 3 1 v l.length (l.map (Value.int .i64))

theorem SI.move {w w' : World} {v : Value} {l : List Int} (h : SI w v l) (hc : ∀ a u, w.cell? a = some u → v.ownBlock = some a.block → w'.cell? a = some u) : SI w' v l := by
  obtain ⟨ao, cap, rfl, h1, h2, h3, h4⟩ := h
  refine ⟨ao, cap, rfl, h1, h2, h3, fun x hx i hi => hc _ _ (h4 x hx i hi) ?_⟩
  subst hx; simp [Value.ownBlock, add_block]

theorem SI.below {w w' : World} {v : Value} {l : List Int} (h : SI w v l) (hb : Below w.heap.size w w') : SI w' v l :=
  h.move fun a _ ha _ => (hb.cell (World.block_lt_of_cell? w a ha)).trans ha

theorem OI.lt {w : World} {base : Nat} {v : Value} {l : List Int} (h : OI w base v l) : ∀ k, v.ownBlock = some k → base ≤ k ∧ k < w.heap.size := World.ownsRow.lt h

theorem OI.sb {w : World} {base : Nat} {v : Value} {l : List Int} (h : OI w base v l) : SI w v l := by
  have hc := @World.ownsRow.cells _ _ _ _ _ _ _ h
  rcases h.2 with ⟨rfl, h0⟩ | ⟨g, cap, cur, rfl, _, _, h3, h4, _, _⟩
  · obtain rfl : l = [] := List.eq_nil_of_length_eq_zero h0
    exact ⟨none, 0, rfl, Nat.le_refl _, Nat.zero_le _, fun _ => rfl, fun x hx => by cases hx⟩
  · refine ⟨some ⟨g, 0, none⟩, cap, rfl, h3, h4, (fun e => by cases e), fun x hx i hi => ?_⟩
    cases hx
    refine hc (g := g) rfl i _ ?_
    simp [hi]

theorem OI.shape {w : World} {base : Nat} {v : Value} {l : List Int} (h : OI w base v l) : ∃ a c, v = .slice a l.length c := by
  rcases h.2 with ⟨rfl, h0⟩ | ⟨g, cap, cur, rfl, _⟩
  · exact ⟨none, 0, by rw [h0]⟩
  · exact ⟨_, _, rfl⟩

theorem OI.move {w w' : World} {base : Nat} {v : Value} {l : List Int} (h : OI w base v l) (hb : ∀ k, v.ownBlock = some k → w'.heap[k]? = w.heap[k]?) : OI w' base v l := by
  refine ⟨h.1, ?_⟩
  rcases h.2 with h2 | ⟨g, cap, cur, rfl, h1, h2, r⟩
  · exact .inl h2
  · exact .inr ⟨g, cap, cur, rfl, h1, (hb g rfl).trans h2, r⟩

theorem OI.base {w : World} {base base' : Nat} {v : Value} {l : List Int} (h : OI w base v l) (hb : base' ≤ base) : OI w base' v l := by
  refine ⟨h.1, ?_⟩
  rcases h.2 with h2 | ⟨g, cap, cur, rfl, h1, r⟩
  · exact .inl h2
  · exact .inr ⟨g, cap, cur, rfl, Nat.le_trans hb h1, r⟩

theorem OI.below {w w' : World} {base B : Nat} {v : Value} {l : List Int} (h : OI w base v l) (hb : Below B w w') (hB : w.heap.size ≤ B) : OI w' base v l :=
  h.move fun k hk => hb.block k (Nat.lt_of_lt_of_le (h.lt k hk).2 hB)

theorem infoInt : (Tryz.prog.info? 3).map (fun i => (i.zero, i.size, i.bytes)) = some (some (.int .i64 0), 1, 8) := by kernel_rfl

theorem madeInts (n : Nat) : (madeCells #[Value.int .i64 0] n).toList = List.replicate n (Value.int .i64 0) := by
  have e : ∀ k : Nat, [Value.int IntKind.i64 0][k % 1]?.getD default = Value.int .i64 0 := fun k => by simp [Nat.mod_one]
  simp only [madeCells]
  simp [e, List.map_const']

theorem OI.of_full {w : World} {base g : Nat} {l : List Int} (hg : w.heap[g]? = some (.cells (l.map (Value.int .i64)).toArray 3 (0, 0))) (hb : base ≤ g) (hm : l.length ≤ maxLen) : OI w base (.slice (some ⟨g, 0, none⟩) l.length l.length) l :=
  ⟨by simp, .inr ⟨g, l.length, _, rfl, hb, hg, Nat.le_refl _, hm, by simp, List.take_of_length_le (by simp)⟩⟩

theorem run_appI_none (w : World) (tx ty : TypeId) (i : TypeInfo) (hi : Tryz.prog.info? 3 = some i) (x : Value) (hs : Src Tryz.prog i.size tx x 0 [] w) :
    (Builtin.append_ #[65, tx] ty #[.slice none 0 0, x]).run Tryz.prog w = .ok (.slice none 0 0) w := by
  rcases hs.kind with ⟨e', hk⟩ | hk <;> simp [Builtin.append_, run_underlying Tryz.underlying65, run_underlying hk, sizeOf, typeInfo, hi, hs.len, hs.cells]

theorem run_appI (w : World) (base : Nat) (tx ty : TypeId) (v x : Value) (l news : List Int) (hown : OI w base v l) (hs : Src Tryz.prog 1 tx x news.length (news.map (Value.int .i64)) w)
    (hb : l.length + news.length ≤ 17592186044416) (hbase : base ≤ w.heap.size) :
    ∃ v' w', (Builtin.append_ #[65, tx] ty #[v, x]).run Tryz.prog w = .ok v' w' ∧ OI w' base v' (l ++ news) ∧ Grew w w' v v' ∧ OI w' base v l := by
  obtain ⟨i, hi, hz, hsz, hby⟩ := info_parts infoInt
  have hs' : Src Tryz.prog i.size tx x news.length (news.map (Value.int .i64)) w := by rw [hsz]; exact hs
  have hmx : l.length + news.length ≤ maxLen := by unfold maxLen; omega
  have grown : ∀ old, old < l.length + news.length → (OI (w.drew.alloc (.cells ((l.map (Value.int .i64) ++ news.map (Value.int .i64)).toArray ++ Builtin.zeroCells (Value.int .i64 0).cells (grownCap w (l.length + news.length) old 3 - (l.length + news.length))) 3)) base
      (.slice (some ⟨w.heap.size, 0, none⟩) (l.length + news.length) (grownCap w (l.length + news.length) old 3)) (l ++ news)) := by
    intro old ho
    have hge := grownCap_ge w (l.length + news.length) old 3
    have hcm : grownCap w (l.length + news.length) old 3 ≤ maxLen := grownCap_le_maxLen w (l.length + news.length) old 3 hmx
    refine ⟨by simp, .inr ⟨w.heap.size, grownCap w (l.length + news.length) old 3, _, by rw [List.length_append], hbase, heap_alloc_new w.drew _, by rw [List.length_append]; exact hge, hcm, ?_, ?_⟩⟩
    · simp only [Array.size_append, List.size_toArray, List.length_append, List.length_map, size_zeroCells, Value.cells]
      simp
      omega
    · simp only [Array.toList_append, List.map_append]
      rw [List.take_append_of_le_length (by simp)]
      exact List.take_of_length_le (by simp)
  rcases hown.2 with ⟨rfl, h0⟩ | ⟨g, cap, cur, rfl, hbg, hg, hnc, hcm, hcs, htake⟩
  · obtain rfl : l = [] := List.eq_nil_of_length_eq_zero h0
    by_cases hm : news = []
    · subst hm
      exact ⟨_, _, run_appI_none w tx ty i hi x hs', hown, .inl ⟨rfl, rfl⟩, hown⟩
    · have hpos : 0 < news.length := List.length_pos_iff.2 hm
      have hr := run_append_grow_src (P := Tryz.prog) w 65 tx ty 3 i (.int .i64 0) Tryz.underlying65 hi hz none 0 0 [] (run_firstCells_none w.drew i.size 0 0 0) x news.length _ hs' (by omega) (by omega) (by rw [hby]; exact growslice_fits (by omega) (by simp at hb ⊢; omega))
      have hgr := grown 0 (by simp; omega)
      simp only [List.length_nil, Nat.zero_add, List.map_nil, List.nil_append] at hgr hr ⊢
      exact ⟨_, _, hr, hgr, .inr (.inl ⟨rfl, (Below.refl _ _).drew.alloc (Nat.le_refl _) _⟩), World.ownsRow_nil _ _ _ _⟩
  · by_cases hroom : l.length + news.length ≤ cap
    · have hfit : l.length * i.size + (news.map (Value.int .i64)).length ≤ cur.size := by rw [hsz, hcs]; simp; omega
      have hst := run_storeCells_at Tryz.prog g (l.length * i.size) 3 (news.map (Value.int .i64)) 0 cur w hg (by simpa using hfit) hs.one
      simp only [Nat.add_zero] at hst
      have hr : (Builtin.append_ #[65, tx] ty #[.slice (some ⟨g, 0, none⟩) l.length cap, x]).run Tryz.prog w =
          .ok (.slice (some ⟨g, 0, none⟩) (l.length + news.length) cap) (w.setRow g (cur.toList.take (l.length * i.size) ++ news.map (Value.int .i64) ++ cur.toList.drop (l.length * i.size + (news.map (Value.int .i64)).length)).toArray) := by
        rcases hs'.kind with ⟨e', hk⟩ | hk <;> simp [Builtin.append_, run_underlying Tryz.underlying65, run_underlying hk, sizeOf, typeInfo, hi, hs'.len, hroom, hs'.cells, Addr.add_lit, hst]
      refine ⟨_, _, hr, ⟨by simp, .inr ⟨g, cap, _, by rw [List.length_append], hbg, setRow_heap w g cur _ 3 _ hg, by rw [List.length_append]; exact hroom, hcm, ?_, ?_⟩⟩, .inr (.inr ⟨rfl, by simp [World.setRow], ⟨rfl, rfl, rfl, by simp, fun k _ hk => setRow_other w g k _ (fun e => hk (by simp [Value.ownBlock, e]))⟩⟩), ⟨by simp, .inr ⟨g, cap, _, rfl, hbg, setRow_heap w g cur _ 3 _ hg, hnc, hcm, ?_, ?_⟩⟩⟩
      · rw [hsz]
        simp only [List.size_toArray, List.length_append, List.length_take, List.length_drop, Array.length_toList, List.length_map]
        omega
      · rw [hsz, htake]
        simp only [List.map_append]
        rw [List.take_append_of_le_length (by simp)]
        exact List.take_of_length_le (by simp)
      · rw [hsz]
        simp only [List.size_toArray, List.length_append, List.length_take, List.length_drop, Array.length_toList, List.length_map]
        omega
      · rw [hsz, htake]
        simp only [List.append_assoc]
        rw [List.take_append_of_le_length (by simp)]
        exact List.take_of_length_le (by simp)
    · have holds : ∀ j u, (l.map (Value.int .i64))[j]? = some u → w.drew.cell? ((⟨g, 0, none⟩ : Addr).add j) = some u := World.ownsRow.cells hown (g := g) rfl
      have hr := run_append_grow_src (P := Tryz.prog) w 65 tx ty 3 i (.int .i64 0) Tryz.underlying65 hi hz (some ⟨g, 0, none⟩) l.length cap (l.map (Value.int .i64)) (run_firstCells_some w.drew i.size l.length ⟨g, 0, none⟩ l.length cap _ (by rw [hsz]; simp) holds) x news.length _ hs' (by omega) (by omega) (by rw [hby]; exact growslice_fits (by omega) (by omega))
      exact ⟨_, _, hr, grown cap (by omega), .inr (.inl ⟨rfl, (Below.refl _ _).drew.alloc (Nat.le_refl _) _⟩), hown.below ((Below.refl w.heap.size w).drew.alloc (Nat.le_refl _) _) (Nat.le_refl _)⟩

theorem wpList_appI {w : World} {ops : Array Oper} {rest : List Oper} {o : Oper} {a : Act} {Q : Exit → Act → World → Prop} (hgd : o.guard = none) (s x : Operand) (tx : TypeId)
    (ho : o.op = .call { callee := .builtin .append, args := #[s, x], argTypes := #[65, tx] }) (base : Nat) (v xv : Value) (l news : List Int) (hv : a.eval s = v) (hown : OI w base v l) (hx : a.eval x = xv) (hs : Src Tryz.prog 1 tx xv news.length (news.map (Value.int .i64)) w)
    (hb : l.length + news.length ≤ 17592186044416) (hbase : base ≤ w.heap.size)
    (h : ∀ v' w', OI w' base v' (l ++ news) → Grew w w' v v' → wpList Tryz.prog ops Q rest (a.put o.dst v') w') : wpList Tryz.prog ops Q (o :: rest) a w := by
  refine wpList_plain hgd fun K hK => ?_
  obtain ⟨v', w', hr, h2, h3, _⟩ := run_appI w base tx o.type v xv l news hown hs hb hbase
  unfold Oper.wp
  simp [execOp, ho, resolve, invoke, builtin, hv, hx, hr, Result.andThen]
  exact hK _ _ (h v' w' h2 h3)

theorem SI.src {w : World} {v : Value} {l : List Int} (h : SI w v l) : Src Tryz.prog 1 65 v l.length (l.map (Value.int .i64)) w := by
  obtain ⟨ao, cap, rfl, h1, h2, h3, h4⟩ := h
  cases ao with
  | none =>
    have hc := h3 rfl
    obtain rfl : l = [] := List.eq_nil_of_length_eq_zero (by omega)
    exact Src.ofNil w Tryz.underlying65 cap
  | some a =>
    refine Src.ofSlice w Tryz.underlying65 a l.length cap _ (by simp) (fun j u hj => ?_) (fun u hu => by obtain ⟨n, _, rfl⟩ := List.mem_map.1 hu; rfl)
    obtain ⟨hjl, rfl⟩ := List.getElem?_eq_some_iff.1 hj
    have hjl' : j < l.length := by simpa using hjl
    rw [h4 a rfl j hjl']
    simp [hjl']

theorem built_srcI (w : World) (cs : List Int) : Src Tryz.prog 1 65 (.slice (some ⟨w.heap.size, 0, none⟩) cs.length cs.length) cs.length (cs.map (Value.int .i64)) (w.alloc (.cells (cs.map (Value.int .i64)).toArray 3)) := by
  refine Src.ofSlice _ Tryz.underlying65 _ _ _ _ (by simp) (fun j u hj => ?_) (fun u hu => by obtain ⟨n, _, rfl⟩ := List.mem_map.1 hu; rfl)
  have e := heap_alloc_new w (.cells (cs.map (Value.int .i64)).toArray 3)
  rw [Addr.add_lit]
  unfold World.cell?
  simp only [e, Nat.zero_add]
  simpa using hj

theorem OI.alloc {w : World} {base : Nat} {v : Value} {l : List Int} (h : OI w base v l) (o : Obj) : OI (w.alloc o) base v l := h.move fun k hk => Below.heap_alloc w o k (h.lt k hk).2

theorem wpList_mkI {w : World} {ops : Array Oper} {rest : List Oper} {o : Oper} {a : Act} {Q : Exit → Act → World → Prop} (hg : o.guard = none) (l c : Operand) (hop : o.op = Op.makeSlice 65 l c)
    (kl kc : IntKind) (L C : Int) (n m : Nat) (hl : a.eval l = .int kl L) (hc : a.eval c = .int kc C) (hL : L = (n : Int)) (hC : C = (m : Int)) (hnm : n ≤ m) (b2 : m ≤ 17592186044416)
    (hK : ∀ w', w'.heap[w.heap.size]? = some (.cells (List.replicate m (Value.int .i64 0)).toArray 3 (0, 0)) → Below w.heap.size w w' → wpList Tryz.prog ops Q rest (a.put o.dst (.slice (some ⟨w.heap.size, 0, none⟩) n m)) w') :
    wpList Tryz.prog ops Q (o :: rest) a w := by
  obtain ⟨i0, hi, hz0, hz1, hz2⟩ := info_parts infoInt
  refine wpList_plain hg fun K hK' => ?_
  have hr := run_make (P := Tryz.prog) w 65 3 i0 (.int .i64 0) Tryz.underlying65 hi hz0 kl kc (n : Int) (m : Int) (by omega) (by omega) (by rw [hz2]; omega) (by omega)
  subst hL hC
  unfold Oper.wp
  simp [execOp, hop, hl, hc, hr, Result.andThen]
  refine hK' _ _ (hK _ ?_ ((Below.refl _ _).alloc (Nat.le_refl _) _))
  rw [heap_alloc_new, hz1, Nat.mul_one]
  have e : (madeCells (Value.int .i64 0).cells m) = (List.replicate m (Value.int .i64 0)).toArray := by
    apply Array.ext'
    exact madeInts m
  rw [e]

theorem sizeInt : (Tryz.prog.info? 3).map (·.size) = some 1 := by kernel_rfl

end Go.Proofs.YtfoglaajnlbnbaaGreatDoor

namespace Go.Proofs.YtfoglaajnlbnbaaGreatDoor
open Go.RowKit
set_option maxRecDepth 20000

theorem u32_and1 {v : Int} (h0 : 0 ≤ v) (h1 : v < 4294967296) : bits .and .u32 v 1 = v % 2 := by
  have := bits_mask .u32 32 (by decide) (fun n a b => by rw [IntKind.wrap_u32]; omega) 1 (by decide) v h0 (by omega)
  simpa using this

theorem u32_or1 {t b : Int} (h0 : 0 ≤ t) (h1 : t < 2147483648) (hb : b = 0 ∨ b = 1) : bits .or .u32 (t * 2) b = 2 * t + b := by
  rw [bits_join .u32 32 (by decide) (fun n a b => by rw [IntKind.wrap_u32]; omega) 1 (t * 2) b (by omega) (by omega) (by omega) (by omega) (by omega) (by omega)]
  omega

def Cnt (n : Int) : Prop := 0 ≤ n ∧ n ≤ 32
instance (n : Int) : Decidable (Cnt n) := by unfold Cnt; exact inferInstance
def Fit (v n : Int) : Prop := Cnt n ∧ v < 2 ^ n.toNat
instance (v n : Int) : Decidable (Fit v n) := by unfold Fit; exact inferInstance

theorem countable_any (n : Int) (w : World) : Calls Tryz.prog 74 #[.int .i64 n] w fun e w' => e = .returned (.bool (decide (Cnt n))) ∧ w' = w := by
  by_cases h0 : 0 ≤ n
  · by_cases h1 : n ≤ 32
    · have HD : Hid (decide (Cnt n) = true) := decide_eq_true ⟨h0, h1⟩
      go_enter Tryz.func74, Tryz.ntmps74
      go_wp2
      go_ret
      rw [HD.out]
      exact ⟨rfl, rfl⟩
    · have HD : Hid (decide (Cnt n) = false) := decide_eq_false fun h => h1 h.2
      go_enter Tryz.func74, Tryz.ntmps74
      go_wp2
      go_ret
      rw [HD.out]
      exact ⟨rfl, rfl⟩
  · have HD : Hid (decide (Cnt n) = false) := decide_eq_false fun h => h0 h.1
    go_enter Tryz.func74, Tryz.ntmps74
    go_wp2
    go_ret
    rw [HD.out]
    exact ⟨rfl, rfl⟩

theorem fits_any (v n : Int) (hv : 0 ≤ v) (hv1 : v < 4294967296) (w : World) : Calls Tryz.prog 39 #[.int .u32 v, .int .i64 n] w fun e w' => e = .returned (.bool (decide (Fit v n))) ∧ w' = w := by
  by_cases hc : Cnt n
  · have HC : Hid (decide (Cnt n) = true) := decide_eq_true hc
    have hc' := hc
    obtain ⟨h0, h1⟩ := hc'
    obtain ⟨m, rfl⟩ : ∃ m : Nat, n = m := ⟨n.toNat, by omega⟩
    have hp := pow_pos m
    have HD : Hid ((v / 2 ^ m == 0) = decide (Fit v m)) := by
      by_cases hv2 : v < 2 ^ m
      · rw [Int.ediv_eq_zero_of_lt hv hv2]
        exact (decide_eq_true (show Fit v m from ⟨hc, by simpa using hv2⟩)).symm
      · have : 1 ≤ v / 2 ^ m := by rw [Int.le_ediv_iff_mul_le hp]; omega
        have e : (v / 2 ^ m == 0) = false := by simp; omega
        show _ = _
        rw [e]
        exact (decide_eq_false (fun h : Fit v m => hv2 (by simpa using h.2))).symm
    clear hc
    go_enter Tryz.func39, Tryz.ntmps39
    go_wp2_with fail
    refine (countable_any _ _).mono ?_
    rintro e w' ⟨rfl, rfl⟩
    rw [HC.out]
    go_wp2
    go_ret
    refine ⟨?_, rfl⟩
    show Ending.returned (Value.bool (v / 2 ^ m == 0)) = _
    rw [HD.out]
  · have HC : Hid (decide (Cnt n) = false) := decide_eq_false hc
    have HD : Hid (decide (Fit v n) = false) := decide_eq_false fun h => hc h.1
    clear hc
    go_enter Tryz.func39, Tryz.ntmps39
    go_wp2_with fail
    refine (countable_any _ _).mono ?_
    rintro e w' ⟨rfl, rfl⟩
    rw [HC.out]
    go_wp2
    go_ret
    rw [HD.out]
    exact ⟨rfl, rfl⟩

theorem rev_snoc (v : Int) (k : Nat) : val (bts v (k + 1)).reverse = v / 2 ^ k % 2 + 2 * val (bts v k).reverse := by
  rw [bts_snoc, List.reverse_append]
  rfl

theorem rev_bound (v : Int) (k : Nat) : 0 ≤ val (bts v k).reverse ∧ val (bts v k).reverse < 2 ^ k := by
  have := val_bound (l := (bts v k).reverse) (fun b hb => bit_bts v k b (List.mem_reverse.1 hb))
  rwa [List.length_reverse, length_bts] at this

def revN (v n : Int) : Int := if Fit v n then val (bts v n.toNat).reverse else 0
def revE (v n : Int) : Int := if Fit v n then 0 else 1

theorem reverse_any (v n : Int) (hv : 0 ≤ v) (hv1 : v < 4294967296) (w : World) : Calls Tryz.prog 90 #[.int .u32 v, .int .i64 n] w fun e w' => e = .returned (.tuple #[.int .u32 (revN v n), .int .i64 (revE v n)]) ∧ w' = w := by
  by_cases hf : Fit v n
  · have HD : Hid (decide (Fit v n) = true) := decide_eq_true hf
    have HR : Hid (revN v n = val (bts v n.toNat).reverse ∧ revE v n = 0) := ⟨if_pos hf, if_pos hf⟩
    obtain ⟨⟨h0, h1⟩, h2⟩ := hf
    obtain ⟨m, rfl⟩ : ∃ m : Nat, n = m := ⟨n.toNat, by omega⟩
    clear h2
    go_enter Tryz.func90, Tryz.ntmps90
    go_wp2_with fail
    refine (fits_any v m hv hv1 _).mono ?_
    rintro e w' ⟨rfl, rfl⟩
    rw [HD.out]
    go_wp2
    go_loopw [0, 6, 12] (fun x t i wr => ∃ k : Nat, k ≤ m ∧ i = .int .i64 k ∧ x = .int .u32 (v / 2 ^ k) ∧ t = .int .u32 (val (bts v k).reverse) ∧ wr = w') (fun _ _ i _ => m - (intOf i).toNat)
    case atStart => exact ⟨0, Nat.zero_le _, rfl, by simp, rfl, rfl⟩
    case round =>
      obtain ⟨k, hk, rfl, rfl, rfl, rfl⟩ := hrel
      by_cases hlt : k < m
      · have hb := rev_bound v k
        have h31 : (2 : Int) ^ k ≤ 2 ^ 31 := pow_le (by omega)
        obtain ⟨t, HT⟩ : ∃ t, Hid (t = val (bts v k).reverse) := ⟨_, rfl⟩
        obtain ⟨q, HQ⟩ : ∃ q, Hid (q = v / 2 ^ k) := ⟨_, rfl⟩
        rw [← HT.out] at hb ⊢
        rw [← HQ.out]
        obtain ⟨t0, t1⟩ := hb
        have hq0 : 0 ≤ q := by rw [HQ.out]; exact Int.ediv_nonneg hv (Int.le_of_lt (pow_pos k))
        have hq1 : q < 4294967296 := by rw [HQ.out]; exact Int.lt_of_le_of_lt (Int.ediv_le_self _ hv) hv1
        have ht2 : t < 2147483648 := by omega
        have hand := u32_and1 hq0 hq1
        have hlt' : (k : Int) < (m : Int) := by omega
        have HS : Hid (val (bts v (k + 1)).reverse = 2 * t + q % 2) := by show _ = _; rw [rev_snoc, HT.out, HQ.out]; omega
        have HQ2 : Hid (v / 2 ^ (k + 1) = q / 2) := by show _ = _; rw [HQ.out, Int.pow_succ, Int.ediv_ediv_of_nonneg (Int.le_of_lt (pow_pos k))]
        have HO := hide (u32_or1 t0 ht2 (b := q % 2) (by omega))
        have hw : IntKind.u32.wrap (t * 2) = t * 2 := by rw [IntKind.wrap_u32]; omega
        clear t1 h31
        go_wp2
        go_roundw
        case rel =>
          refine ⟨k + 1, by omega, by go_num, ?_, ?_, by trivial⟩
          · rw [HQ2.out]
          · rw [HS.out]
            first | rw [HO.out] | (simp only [hand]; rw [hw, HO.out]) | trace_state
        case measure => simp [intOf]; omega
      · obtain rfl : k = m := by omega
        have hlt' : ¬ (k : Int) < (k : Int) := by omega
        go_wp2
        go_ret2
        rw [HR.out.1, HR.out.2]
        exact ⟨rfl, rfl⟩
  · have HD : Hid (decide (Fit v n) = false) := decide_eq_false hf
    have HR : Hid (revN v n = 0 ∧ revE v n = 1) := ⟨if_neg hf, if_neg hf⟩
    clear hf
    go_enter Tryz.func90, Tryz.ntmps90
    go_wp2_with fail
    refine (fits_any v n hv hv1 _).mono ?_
    rintro e w' ⟨rfl, rfl⟩
    rw [HD.out]
    go_wp2
    go_ret2
    rw [HR.out.1, HR.out.2]
    exact ⟨rfl, rfl⟩

end Go.Proofs.YtfoglaajnlbnbaaGreatDoor

namespace Go.Proofs.YtfoglaajnlbnbaaGreatDoor
open Go.RowKit Go.Maps
set_option maxRecDepth 20000

def av (f : Nat → Int) : Array Value := Array.ofFn fun i : Fin 16 => Value.int .i64 (f i)

theorem av_size (f : Nat → Int) : (av f).size = 16 := by simp [av]

theorem av_get (f : Nat → Int) {i : Nat} (h : i < 16) : (av f)[i]? = some (.int .i64 (f i)) := by simp [av, h]

def upf (f : Nat → Int) (i : Nat) (x : Int) : Nat → Int := fun k => if k = i then x else f k

theorem av_set (f : Nat → Int) {i : Nat} (x : Int) (h : i < 16) : (av f).setIfInBounds i (.int .i64 x) = av (upf f i x) := by
  apply Array.ext_getElem?
  intro k
  rw [Array.getElem?_setIfInBounds]
  by_cases e : i = k
  · subst e; simp [av, h, upf]
  · rw [if_neg e]
    by_cases hk : k < 16
    · have : k ≠ i := fun h => e h.symm
      simp [av, hk, upf, this]
    · simp [av, hk]

theorem av_congr {f g : Nat → Int} (h : ∀ i, i < 16 → f i = g i) : av f = av g := by
  unfold av
  congr 1
  funext i
  rw [h i i.2]

theorem av_one (f : Nat → Int) : (av f).all (·.oneCell') = true := by
  rw [Array.all_eq_true]
  intro i hi
  simp [av, Value.oneCell']

theorem av_zero : av (fun _ => 0) = #[.int .i64 0, .int .i64 0, .int .i64 0, .int .i64 0, .int .i64 0, .int .i64 0, .int .i64 0, .int .i64 0, .int .i64 0, .int .i64 0, .int .i64 0, .int .i64 0, .int .i64 0, .int .i64 0, .int .i64 0, .int .i64 0] := rfl

theorem sizePer (f : Nat → Int) : (Tryz.prog.info? 188).map (·.size) = some (av f).size := by rw [av_size]; kernel_rfl

theorem wpList_loadP {ops : Array Oper} {rest : List Oper} {a : Act} {w : World} {Q : Exit → Act → World → Prop} {dst : Option Tmp} {x : Operand} {ty : TypeId} {pos : String} {after : Array Edge} (g : Nat) (f : Nat → Int)
    (hx : a.eval x = .pointer (some ⟨g, 0, none⟩)) (hg : w.heap[g]? = some (.cells (av f) 188 (0, 0))) (h : wpList Tryz.prog ops Q rest (a.put dst (.agg (av f))) w) :
    wpList Tryz.prog ops Q ({ dst := dst, op := .load 188 x, type := ty, pos := pos, after := after, guard := none } :: rest) a w :=
  wpList_load_row rfl 188 x rfl g hx 188 (av f) (0, 0) _ hg Tryz.underlying188 rfl (sizePer f) h

theorem wpList_storeP {ops : Array Oper} {rest : List Oper} {a : Act} {w : World} {Q : Exit → Act → World → Prop} {dst : Option Tmp} {x y : Operand} {ty : TypeId} {pos : String} {after : Array Edge} (g : Nat) (f h0 : Nat → Int)
    (hx : a.eval x = .pointer (some ⟨g, 0, none⟩)) (hy : a.eval y = .agg (av f)) (hg : w.heap[g]? = some (.cells (av h0) 188 (0, 0))) (h : wpList Tryz.prog ops Q rest (a.put dst undef) (w.setRow g (av f))) :
    wpList Tryz.prog ops Q ({ dst := dst, op := .store 188 x y, type := ty, pos := pos, after := after, guard := none } :: rest) a w :=
  wpList_store_row rfl 188 x y rfl g (av f) hx hy 188 (av h0) hg (sizePer f) (by rw [av_size, av_size]) (av_one f) h

theorem ret_per {fn : Func} {R : Ending → World → Prop} {a : Act} {w : World} {p : Tmp} (hres : fn.results = #[.cell p 188]) (g : Nat) (f : Nat → Int) (hp : a.tmps.getD p undef = .pointer (some ⟨g, 0, none⟩))
    (hg : w.heap[g]? = some (.cells (av f) 188 (0, 0))) (hd : a.defers = []) (hR : R (.returned (.agg (av f))) w) : bodyPost Tryz.prog fn R .ret a w :=
  bodyPost_ret (results_cell_row hres a.tmps w g 188 (av f) (0, 0) _ hp hg Tryz.underlying188 rfl (sizePer f)) hd hR

theorem SI.get {W w : World} {ao : Option Addr} {cap : Nat} {l : List Int} (h : SI W (.slice ao l.length cap) l) (hb : Below W.heap.size W w) {k : Nat} (hk : k < l.length) : ∃ b o, ao = some ⟨b, o, none⟩ ∧ w.cell? ⟨b, o + k, none⟩ = some (.int .i64 (l.getD k 0)) := by
  obtain ⟨ao', cap', he, h1, h2, h3, h4⟩ := h
  simp only [Value.slice.injEq] at he
  obtain ⟨rfl, -, rfl⟩ := he
  cases ao with
  | none => have := h3 rfl; omega
  | some x =>
    obtain ⟨b, o, rfl⟩ := addr_lit (h4 x rfl 0 (by omega))
    have hc := h4 _ rfl k hk
    have hbl := World.block_lt_of_cell? _ _ hc
    rw [Addr.add_lit] at hc hbl
    exact ⟨b, o, rfl, (hb.cell hbl).trans hc⟩

theorem SI.open {w : World} {v : Value} {l : List Int} (h : SI w v l) : ∃ ao cap, v = .slice ao l.length cap ∧ l.length ≤ cap ∧ cap ≤ 9223372036854775807 := by
  obtain ⟨ao, cap, rfl, h1, h2, _⟩ := h
  unfold maxLen at h2
  exact ⟨ao, cap, rfl, h1, by omega⟩

def Two (w : World) (f g : Nat → Int) (wr : World) : Prop := wr.heap[w.heap.size]? = some (.cells (av f) 188 (0, 0)) ∧ wr.heap[w.heap.size + 1]? = some (.cells (av g) 188 (0, 0)) ∧ Below w.heap.size w wr

theorem two_start (w : World) (o p : Obj) (f g : Nat → Int) (ho : o = .cells (av f) 188 (0, 0)) (hp : p = .cells (av g) 188 (0, 0)) : Two w f g ((w.alloc o).alloc p) := by
  subst ho hp
  obtain ⟨h1, h2⟩ := heap_two w (.cells (av f) 188 (0, 0)) (.cells (av g) 188 (0, 0))
  exact ⟨h2, h1, ((Below.refl _ _).alloc (Nat.le_refl _) _).alloc (by simp) _⟩

theorem Two.cell {w wr : World} {f g : Nat → Int} (h : Two w f g wr) {n : Nat} (hn : n < 16) : wr.cell? ⟨w.heap.size + 1, n, none⟩ = some (.int .i64 (g n)) := by
  rw [cell_of_row _ _ _ _ _ _ h.2.1, av_get g hn]

theorem Two.free {w wr : World} {f g : Nat → Int} (h : Two w f g wr) (n : Nat) : wr.frozen? ⟨w.heap.size + 1, n, none⟩ = false := frozen_of_row _ _ _ _ _ h.2.1
theorem Two.free0 {w wr : World} {f g : Nat → Int} (h : Two w f g wr) (n : Nat) : wr.frozen? ⟨w.heap.size, n, none⟩ = false := frozen_of_row _ _ _ _ _ h.1

theorem Two.set {w wr : World} {f g : Nat → Int} (h : Two w f g wr) {n : Nat} (hn : n < 16) (x : Int) : Two w f (upf g n x) (wr.setCell ⟨w.heap.size + 1, n, none⟩ (.int .i64 x)) := by
  refine ⟨(setCell_others wr _ n _ _ (by omega)).trans h.1, ?_, ?_⟩
  · rw [heap_setCell_same _ _ _ _ _ _ h.2.1, av_set g x hn]
  · exact h.2.2.setCell (by show _ ≤ w.heap.size + 1; omega) _

theorem Two.over {w wr : World} {f g f' : Nat → Int} (h : Two w f g wr) : Two w f' g (wr.setRow w.heap.size (av f')) := by
  refine ⟨setRow_heap wr _ _ _ _ _ h.1, (setRow_other wr _ _ _ (by omega)).trans h.2.1, ?_⟩
  exact ⟨h.2.2.os, h.2.2.tape, h.2.2.output, by rw [size_setRow]; exact h.2.2.size, fun k hk => (setRow_other wr _ _ _ (by omega)).trans (h.2.2.block k hk)⟩

theorem cn_snoc {l : List Int} {k : Nat} (hk : k < l.length) (n : Nat) : cn (l.take (k + 1)) n = cn (l.take k) n + if n ≠ 0 ∧ l.getD k 0 = (n : Int) then 1 else 0 := by
  unfold cn
  by_cases h : n = 0
  · simp [h]
  · rw [if_neg h, if_neg h, count_take_succ l _ hk]
    by_cases e : l.getD k 0 = (n : Int)
    · rw [if_pos e, if_pos ⟨h, e⟩]
    · rw [if_neg e, if_neg (fun x => e x.2)]

theorem cn_step {l : List Int} {k n : Nat} (hk : k < l.length) (hn : l.getD k 0 = (n : Int)) :
    (n = 0 → (av fun m => (cn (l.take (k + 1)) m : Int)) = av fun m => (cn (l.take k) m : Int)) ∧ (n ≠ 0 → (av fun m => (cn (l.take (k + 1)) m : Int)) = av (upf (fun m => (cn (l.take k) m : Int)) n ((cn (l.take k) n : Int) + 1))) := by
  refine ⟨fun h => av_congr fun i _ => ?_, fun h => av_congr fun i _ => ?_⟩
  · rw [cn_snoc hk, if_neg (fun x => x.1 (by have := x.2; omega))]; rfl
  · rw [cn_snoc hk]
    unfold upf
    by_cases e : i = n
    · subst e
      rw [if_pos ⟨h, hn⟩, if_pos rfl]; omega
    · rw [if_neg (fun x => e (by have := x.2; omega)), if_neg e]; rfl

theorem count_any (v : Value) (l : List Int) (w : World) (h : SI w v l) (hl : Lens l) :
    Calls Tryz.prog 132 #[v] w fun e w' => e = .returned (.agg (av fun n => (cn l n : Int))) ∧ Below w.heap.size w w' := by
  have HS := hide h
  have HL := hide hl
  have h288 := hl.1
  obtain ⟨ao, cap, rfl, hlc, hcm⟩ := h.open
  clear h hl
  go_enter Tryz.func132, Tryz.ntmps132
  go_wp2
  go_loopw [8] (fun i wr => ∃ k : Nat, k ≤ l.length ∧ i = .int .i64 k ∧ Hid (Two w (fun _ => 0) (fun n => (cn (l.take k) n : Int)) wr)) (fun i _ => l.length - (intOf i).toNat)
  case atStart =>
    refine ⟨0, Nat.zero_le _, rfl, two_start w _ _ _ _ ?_ ?_⟩
    · rw [av_zero]
    · rw [show (fun n => (cn (l.take 0) n : Int)) = fun _ => 0 by funext n; simp [cn], av_zero]
  case round =>
    obtain ⟨k, hk, rfl, HT⟩ := hrel
    by_cases hlt : k < l.length
    · have hlt' : (k : Int) < (l.length : Int) := by omega
      obtain ⟨b, o, rfl, hc⟩ := HS.out.get HT.out.2.2 hlt
      obtain ⟨n, hn⟩ : ∃ n, n = ln l k := ⟨_, rfl⟩
      have HN : Hid (l.getD k 0 = (n : Int)) := by show _ = _; rw [hn]; exact (HL.out.ln k).1
      have hn15 : n < 16 := by rw [hn]; have := (HL.out.ln k).2; omega
      rw [HN.out] at hc
      clear hn
      have HX := hide (cn_step hlt HN.out)
      by_cases h0 : n = 0
      · subst h0
        go_wp2
        go_roundw
        case rel => exact ⟨k + 1, by omega, by go_num, by show Two _ _ _ _; exact ⟨HT.out.1, by rw [HX.out.1 rfl]; exact HT.out.2.1, HT.out.2.2⟩⟩
        case measure => simp [intOf]; omega
      · have h0' : (0 : Int) < n := by omega
        have hcn := HT.out.cell hn15
        have hfz := HT.out.free n
        have hle : cn (l.take k) n ≤ 288 := by
          have := cn_le (l.take k) n
          rw [List.length_take] at this; omega
        obtain ⟨c, HC⟩ : ∃ c : Nat, Hid (c = cn (l.take k) n) := ⟨_, rfl⟩
        rw [← HC.out] at hcn hle
        go_wp2
        go_roundw
        case rel =>
          refine ⟨k + 1, by omega, by go_num, ?_⟩
          have := HT.out.set hn15 ((c : Int) + 1)
          refine ⟨this.1, ?_, this.2.2⟩
          rw [HX.out.2 h0, ← HC.out]
          exact this.2.1
        case measure => simp [intOf]; omega
    · obtain rfl : k = l.length := by omega
      have hlt' : ¬ (l.length : Int) < (l.length : Int) := by omega
      have HT2 : Hid (Two w (fun _ => 0) (fun n => (cn l n : Int)) wr) := by have := HT.out; rwa [List.take_of_length_le (Nat.le_refl _)] at this
      clear HT
      have HA := hide HT2.out.2.1
      have HB := hide HT2.out.1
      have HO := hide (HT2.out.over (f' := fun n => (cn l n : Int)))
      clear HT2
      go_wp2_with (first | ((with_reducible refine wpList_loadP (w.heap.size + 1) _ ?hx HA.out ?_); case hx => rfl) | ((with_reducible refine wpList_storeP w.heap.size (fun n => (cn l n : Int)) _ ?hx ?hy HB.out ?_); (case hx => rfl); (case hy => rfl)))
      (try simp only [Exit.inBlock, Exit.then])
      refine ret_per (p := 2) ?h1 w.heap.size _ ?h2 HO.out.1 ?h3 ?_
      case h1 => rfl
      case h2 => rfl
      case h3 => rfl
      exact ⟨rfl, HO.out.2.2⟩

theorem fi_step {l : List Int} {k : Nat} : (av (upf (fun m => if m ≤ k then (fi l m : Int) else 0) (k + 1) (((fi l k : Int) + cn l k) * 2))) = av fun m => if m ≤ k + 1 then (fi l m : Int) else 0 := by
  refine av_congr fun i _ => ?_
  unfold upf
  by_cases e : i = k + 1
  · subst e
    rw [if_pos rfl, if_pos (Nat.le_refl _)]
    simp only [fi]; omega
  · rw [if_neg e]
    show (if i ≤ k then _ else _) = _
    by_cases h : i ≤ k
    · rw [if_pos h, if_pos (by omega)]
    · rw [if_neg h, if_neg (by omega)]

def Tri (w : World) (h f g : Nat → Int) (wr : World) : Prop := wr.heap[w.heap.size]? = some (.cells (av h) 188 (0, 0)) ∧ wr.heap[w.heap.size + 1]? = some (.cells (av f) 188 (0, 0)) ∧ wr.heap[w.heap.size + 1 + 1]? = some (.cells (av g) 188 (0, 0)) ∧ Below w.heap.size w wr

theorem tri_start (w : World) (h f g : Nat → Int) : Tri w h f g (((w.alloc (.cells (av h) 188 (0, 0))).alloc (.cells (av f) 188 (0, 0))).alloc (.cells (av g) 188 (0, 0))) := by
  have h1 := heap_two (w.alloc (.cells (av h) 188 (0, 0))) (.cells (av f) 188 (0, 0)) (.cells (av g) 188 (0, 0))
  rw [size_alloc'] at h1
  refine ⟨?_, h1.2, h1.1, (((Below.refl _ _).alloc (Nat.le_refl _) _).alloc (by simp) _).alloc (by simp; omega) _⟩
  rw [Below.heap_alloc _ _ _ (by simp; omega), Below.heap_alloc _ _ _ (by simp)]
  exact heap_alloc_new w _

theorem Tri.cellh {w wr : World} {h f g : Nat → Int} (t : Tri w h f g wr) {n : Nat} (hn : n < 16) : wr.cell? ⟨w.heap.size, n, none⟩ = some (.int .i64 (h n)) := by
  rw [cell_of_row _ _ _ _ _ _ t.1, av_get h hn]

theorem Tri.cellg {w wr : World} {h f g : Nat → Int} (t : Tri w h f g wr) {n : Nat} (hn : n < 16) : wr.cell? ⟨w.heap.size + 1 + 1, n, none⟩ = some (.int .i64 (g n)) := by
  rw [cell_of_row _ _ _ _ _ _ t.2.2.1, av_get g hn]

theorem Tri.free {w wr : World} {h f g : Nat → Int} (t : Tri w h f g wr) (n : Nat) : wr.frozen? ⟨w.heap.size + 1 + 1, n, none⟩ = false := frozen_of_row _ _ _ _ _ t.2.2.1

theorem Tri.set {w wr : World} {h f g : Nat → Int} (t : Tri w h f g wr) {n : Nat} (hn : n < 16) (x : Int) : Tri w h f (upf g n x) (wr.setCell ⟨w.heap.size + 1 + 1, n, none⟩ (.int .i64 x)) := by
  refine ⟨(setCell_others wr _ n _ _ (by omega)).trans t.1, (setCell_others wr _ n _ _ (by omega)).trans t.2.1, ?_, ?_⟩
  · rw [heap_setCell_same _ _ _ _ _ _ t.2.2.1, av_set g x hn]
  · exact t.2.2.2.setCell (by show _ ≤ w.heap.size + 1 + 1; omega) _

theorem Tri.drewN {w wr : World} {h f g : Nat → Int} (t : Tri w h f g wr) (n : Nat) : Tri w h f g (wr.drewN n) := ⟨t.1, t.2.1, t.2.2.1, below_drewN t.2.2.2 n⟩

theorem Tri.over {w wr : World} {h f g f' : Nat → Int} (t : Tri w h f g wr) : Tri w h f' g (wr.setRow (w.heap.size + 1) (av f')) := by
  refine ⟨(setRow_other wr _ _ _ (by omega)).trans t.1, setRow_heap wr _ _ _ _ _ t.2.1, (setRow_other wr _ _ _ (by omega)).trans t.2.2.1, ?_⟩
  exact ⟨t.2.2.2.os, t.2.2.2.tape, t.2.2.2.output, by rw [size_setRow]; exact t.2.2.2.size, fun k hk => (setRow_other wr _ _ _ (by omega)).trans (t.2.2.2.block k hk)⟩

theorem firsts_any (l : List Int) (w : World) (hl : Lens l) :
    Calls Tryz.prog 131 #[.agg (av fun n => (cn l n : Int))] w fun e w' => e = .returned (.agg (av fun n => (fi l n : Int))) ∧ Below w.heap.size w w' := by
  have HL := hide hl
  clear hl
  obtain ⟨A, HA⟩ : ∃ A, Hid (A = av fun n => (cn l n : Int)) := ⟨_, rfl⟩
  rw [← HA.out]
  go_enter Tryz.func131, Tryz.ntmps131
  go_wp2
  go_loopw [4] (fun i wr => ∃ k : Nat, k ≤ 15 ∧ i = .int .i64 ((k : Int) + 1) ∧ Hid (Tri w (fun n => (cn l n : Int)) (fun _ => 0) (fun m => if m ≤ k then (fi l m : Int) else 0) wr)) (fun i _ => 16 - (intOf i).toNat)
  case atStart =>
    refine ⟨0, Nat.zero_le _, rfl, ?_⟩
    have := tri_start w (fun n => (cn l n : Int)) (fun _ => 0) (fun _ => 0)
    rw [← HA.out, av_zero] at this
    rw [show (fun m => if m ≤ 0 then (fi l m : Int) else 0) = fun _ => 0 by funext m; by_cases e : m ≤ 0; (obtain rfl : m = 0 := by omega); rfl; rw [if_neg e]]
    exact ⟨this.1, by rw [av_zero]; exact this.2.1, by rw [av_zero]; exact this.2.2.1, this.2.2.2⟩
  case round =>
    obtain ⟨k, hk, rfl, HT⟩ := hrel
    by_cases hlt : k < 15
    · have hlt' : (k : Int) + 1 ≤ 15 := by omega
      have c1 := HT.out.cellg (n := k) (by omega)
      have c2 := HT.out.cellh (n := k) (by omega)
      have hfz := HT.out.free (k + 1)
      have c3 := HT.out.cellg (n := k + 1) (by omega)
      rw [if_pos (Nat.le_refl _)] at c1
      rw [if_neg (by omega)] at c3
      have b1 := fi_top HL.out (n := k) (by omega)
      have b2 : cn l k ≤ 288 := by have := cn_le l k; have := HL.out.1; omega
      obtain ⟨x, HX⟩ : ∃ x : Nat, Hid (x = fi l k) := ⟨_, rfl⟩
      obtain ⟨y, HY⟩ : ∃ y : Nat, Hid (y = cn l k) := ⟨_, rfl⟩
      rw [← HX.out] at c1 b1
      rw [← HY.out] at c2 b2
      have e1 : (k : Int) + 1 - 1 = k := by omega
      have HR : Hid (∀ q, Tri w (fun n => (cn l n : Int)) (fun _ => 0) (fun m => if m ≤ k + 1 then (fi l m : Int) else 0) ((wr.drewN q).setCell ⟨w.heap.size + 1 + 1, k + 1, none⟩ (.int .i64 (((x : Int) + y) * 2)))) := fun q => by
        have := (HT.out.drewN q).set (n := k + 1) (by omega) (((x : Int) + y) * 2)
        refine ⟨this.1, this.2.1, ?_, this.2.2.2⟩
        rw [← fi_step, ← HX.out, ← HY.out]
        exact this.2.2.1
      clear HT
      go_wp2
      go_region
      go_wp2
      go_roundw
      case rel => exact ⟨k + 1, by omega, by go_num, HR.out 1⟩
      case measure => simp [intOf]; omega
    · obtain rfl : k = 15 := by omega
      have hlt' : ¬ ((15 : Nat) : Int) + 1 ≤ 15 := by omega
      have HT2 : Hid (Tri w (fun n => (cn l n : Int)) (fun _ => 0) (fun n => (fi l n : Int)) wr) := by
        have := HT.out
        refine ⟨this.1, this.2.1, ?_, this.2.2.2⟩
        rw [this.2.2.1, av_congr fun i hi => if_pos (show i ≤ 15 by omega)]
      clear HT
      have HC := hide HT2.out.2.2.1
      have HB := hide HT2.out.2.1
      have HO := hide (HT2.out.over (f' := fun n => (fi l n : Int)))
      clear HT2
      go_wp2_with (first | ((with_reducible refine wpList_loadP (w.heap.size + 1 + 1) _ ?hx HC.out ?_); case hx => rfl) | ((with_reducible refine wpList_storeP (w.heap.size + 1) (fun n => (fi l n : Int)) _ ?hx ?hy HB.out ?_); (case hx => rfl); (case hy => rfl)))
      (try simp only [Exit.inBlock, Exit.then])
      refine ret_per (p := 2) ?h1 (w.heap.size + 1) _ ?h2 HO.out.2.1 ?h3 ?_
      case h1 => rfl
      case h2 => rfl
      case h3 => rfl
      exact ⟨rfl, HO.out.2.2.2⟩
end Go.Proofs.YtfoglaajnlbnbaaGreatDoor

