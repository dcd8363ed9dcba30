import Derived.Test.YthjgabncifghaabRNum
namespace Go.Proofs.Ythjgabncifghaab
open Go.RowKit
set_option maxRecDepth 20000
variable {X : Nat → Prop}

theorem ru8_any {w : World} {g B : Nat} {st : CSt} (h : Cu X 76 w g st) (hB : B ≤ g) :
    Calls Try.prog 59 #[.pointer (some ⟨g, 0, none⟩)] w fun e w' => e = .returned (.int .i64 (le (nextL st (1 : Nat)))) ∧ Cu X 76 w' g (nextSt st (1 : Nat)) ∧ Tch B g w w' := by
  have HC := hide h
  go_enter Try.func59, Try.ntmps59
  go_wp2_with fail
  refine (rnumber_any HC.out 1 (by omega) (by omega) hB).mono ?_
  rintro e w1 ⟨rfl, hf⟩
  have HF := hide hf
  clear hf
  go_wp2
  go_ret
  exact ⟨rfl, HF.out⟩

theorem ru16_any {w : World} {g B : Nat} {st : CSt} (h : Cu X 76 w g st) (hB : B ≤ g) :
    Calls Try.prog 60 #[.pointer (some ⟨g, 0, none⟩)] w fun e w' => e = .returned (.int .i64 (le (nextL st (2 : Nat)))) ∧ Cu X 76 w' g (nextSt st (2 : Nat)) ∧ Tch B g w w' := by
  have HC := hide h
  go_enter Try.func60, Try.ntmps60
  go_wp2_with fail
  refine (rnumber_any HC.out 2 (by omega) (by omega) hB).mono ?_
  rintro e w1 ⟨rfl, hf⟩
  have HF := hide hf
  clear hf
  go_wp2
  go_ret
  exact ⟨rfl, HF.out⟩

theorem ru32_any {w : World} {g B : Nat} {st : CSt} (h : Cu X 76 w g st) (hB : B ≤ g) :
    Calls Try.prog 61 #[.pointer (some ⟨g, 0, none⟩)] w fun e w' => e = .returned (.int .i64 (le (nextL st (4 : Nat)))) ∧ Cu X 76 w' g (nextSt st (4 : Nat)) ∧ Tch B g w w' := by
  have HC := hide h
  go_enter Try.func61, Try.ntmps61
  go_wp2_with fail
  refine (rnumber_any HC.out 4 (by omega) (by omega) hB).mono ?_
  rintro e w1 ⟨rfl, hf⟩
  have HF := hide hf
  clear hf
  go_wp2
  go_ret
  exact ⟨rfl, HF.out⟩

theorem num_any (n : Int) (w : World) : Calls Try.prog 13 #[.int .i64 n] w fun e w' => e = .returned (.int .i64 n) ∧ w' = w := by
  go_enter Try.func13, Try.ntmps13
  go_wp2
  go_ret
  exact ⟨rfl, rfl⟩

/-- Blocks g and r alone have turned, and new blocks have come. -/
def Tch2 (B g r : Nat) (w w' : World) : Prop := Below B w w' ∧ ∀ k, k < w.heap.size → k ≠ g → k ≠ r → w'.heap[k]? = w.heap[k]?

theorem Tch2.trans {B g r : Nat} {a b c : World} (h : Tch2 B g r a b) (k : Tch2 B g r b c) : Tch2 B g r a c :=
  ⟨h.1.trans k.1, fun i hi hg hr => (k.2 i (Nat.lt_of_lt_of_le hi h.1.size) hg hr).trans (h.2 i hi hg hr)⟩

theorem Tch.fst {B g : Nat} {a b : World} (h : Tch B g a b) (r : Nat) : Tch2 B g r a b := ⟨h.1, fun k hk hg _ => h.2 k hk hg⟩

theorem Tch.snd {B r : Nat} {a b : World} (h : Tch B r a b) (g : Nat) : Tch2 B g r a b := ⟨h.1, fun k hk _ hr => h.2 k hk hr⟩

theorem Tch2.refl (B g r : Nat) (w : World) : Tch2 B g r w w := ⟨Below.refl _ _, fun _ _ _ _ => rfl⟩

def stepSt (st : CSt) (k n : Int) : CSt :=
  if k = 1 then nextSt st (1 : Nat) else if k = 2 then nextSt st (2 : Nat) else if k = 3 then nextSt st (4 : Nat) else if k = 4 then nextSt st n else if k = 5 then nextSt st n else if k = 6 then seekSt st n else st

/-- Two cursors, the program's and the document's, in one state. -/
structure Duo (X : Nat → Prop) (B : Nat) (w : World) (g r : Nat) (st : CSt) : Prop where
  c : Cu X 68 w g st
  d : Cu X 76 w r st
  ne : g ≠ r
  bg : B ≤ g
  br : B ≤ r

theorem Cu.x {T : Nat} {w : World} {g : Nat} {st : CSt} (h : Cu X T w g st) : X g := by
  obtain ⟨v, _, _, _, _, _, h6⟩ := h
  exact h6.1

theorem Cu.alloc {T : Nat} {w : World} {g : Nat} {st : CSt} (h : Cu X T w g st) (o : Obj) : Cu X T (w.alloc o) g st := by
  obtain ⟨v, h1, h2, h3, h4, h5, h6⟩ := h
  refine ⟨v, (Below.heap_alloc w o g h1.lt).trans h1, ?_, h3, h4, h5, h6⟩
  by_cases hd : st.d = []
  · rcases h2 with h2 | ⟨b, cap, rfl, x1, x2, x3⟩
    · exact .inl h2
    · exact .inr ⟨b, cap, rfl, x1, x2, fun i hi => by rw [hd] at hi; exact absurd hi (Nat.not_lt_zero _)⟩
  · exact h2.move fun k hk => Below.heap_alloc w o k (h2.lt hd k hk)

/-- Both calls made. -/
theorem Duo.step {B g r : Nat} {w w1 w2 : World} {st st' : CSt} (h : Duo X B w g r st) (c1 : Cu X 68 w1 g st') (t1 : Tch B g w w1) (c2 : Cu X 76 w2 r st') (t2 : Tch B r w1 w2) : Duo X B w2 g r st' ∧ Tch2 B g r w w2 :=
  ⟨⟨c1.keep t2 h.ne h.d.x, c2, h.ne, h.bg, h.br⟩, (t1.fst r).trans (t2.snd g)⟩

theorem Duo.mid {B g r : Nat} {w w1 : World} {st : CSt} (h : Duo X B w g r st) (t1 : Tch B g w w1) : Cu X 76 w1 r st := h.d.keep t1 (fun e => h.ne e.symm) h.c.x

theorem Duo.drewN {B g r : Nat} {w : World} {st : CSt} (h : Duo X B w g r st) (q : Nat) : Duo X B (w.drewN q) g r st := ⟨h.c, h.d, h.ne, h.bg, h.br⟩

theorem box_keep {B g k i : Nat} {w w' : World} {u : Value} (ht : Tch B g w w') (hg : g < k) (h : w.cell? ⟨k, i, none⟩ = some u) : w'.cell? ⟨k, i, none⟩ = some u := by
  rw [World.cell?_of_block (w := w) (ht.2 k (World.block_lt_of_cell? _ _ h) (by omega))]
  exact h

theorem box_cell (w : World) (cs : Array Value) (T : Nat) (i : Nat) (u : Value) (h : cs[i]? = some u) : (w.alloc (.cells cs T)).cell? ⟨w.heap.size, i, none⟩ = some u := by
  have e := heap_alloc_new w (.cells cs T)
  unfold World.cell?
  simp only [e]
  exact h

theorem curStep_any {w : World} {g r B : Nat} {st : CSt} (h0 : Duo X B w g r st) (hB : B ≤ w.heap.size) (kind n : Int) :
    Calls Try.prog 39 #[.pointer (some ⟨g, 0, none⟩), .pointer (some ⟨r, 0, none⟩), .agg #[.int .i64 kind, .int .i64 n]] w fun e w' => e = .returned (.bool true) ∧ Duo X B w' g r (stepSt st kind n) ∧ Tch2 B g r w w' := by
  obtain ⟨W, HW⟩ : ∃ W, Hid (W = w.alloc (.cells #[.int .i64 kind, .int .i64 n] 57)) := ⟨_, rfl⟩
  have hD : Duo X B W g r st := by rw [HW.out]; exact ⟨h0.c.alloc _, h0.d.alloc _, h0.ne, h0.bg, h0.br⟩
  have HT : Hid (Tch2 B g r w W) := by rw [HW.out]; exact ⟨(Below.refl _ _).alloc hB _, fun k hk _ _ => Below.heap_alloc w _ k hk⟩
  obtain ⟨z, HZ⟩ : ∃ z, Hid (z = w.heap.size) := ⟨_, rfl⟩
  have hgz : g < z := by rw [HZ.out]; exact h0.c.lt
  have hrz : r < z := by rw [HZ.out]; exact h0.d.lt
  have hz0 : W.cell? ⟨z, 0, none⟩ = some (.int .i64 kind) := by rw [HW.out, HZ.out]; exact box_cell w _ 57 0 _ rfl
  have hz1 : W.cell? ⟨z, 1, none⟩ = some (.int .i64 n) := by rw [HW.out, HZ.out]; exact box_cell w _ 57 1 _ rfl
  have HD := hide hD
  have hbg := h0.bg
  have hbr := h0.br
  have HG := hide hgz
  have HGr := hide hrz
  clear hD h0 hgz hrz
  by_cases k1 : kind = 1
  · subst k1
    have HS : Hid (stepSt st 1 n = nextSt st (1 : Nat)) := rfl
    go_enter Try.func39, Try.ntmps39
    go_wp2_with fail
    rw [← HW.out]
    refine (u8_any HD.out.c hbg).mono ?_
    rintro e w1 ⟨rfl, c1, t1⟩
    have HD1 := hide (HD.out.mid t1)
    have HC1 := hide c1
    have HT1 := hide t1
    clear c1 t1
    go_wp2_with fail
    refine (ru8_any HD1.out hbr).mono ?_
    rintro e w2 ⟨rfl, c2, t2⟩
    have HF := hide (HD.out.step HC1.out HT1.out c2 t2)
    clear c2 t2
    go_wp2
    go_ret
    rw [HS.out]
    exact ⟨rfl, HF.out.1, HT.out.trans HF.out.2⟩
  by_cases k2 : kind = 2
  · subst k2
    have HS : Hid (stepSt st 2 n = nextSt st (2 : Nat)) := rfl
    go_enter Try.func39, Try.ntmps39
    go_wp2_with fail
    rw [← HW.out]
    refine (u16_any HD.out.c hbg).mono ?_
    rintro e w1 ⟨rfl, c1, t1⟩
    have HD1 := hide (HD.out.mid t1)
    have HC1 := hide c1
    have HT1 := hide t1
    clear c1 t1
    go_wp2_with fail
    refine (ru16_any HD1.out hbr).mono ?_
    rintro e w2 ⟨rfl, c2, t2⟩
    have HF := hide (HD.out.step HC1.out HT1.out c2 t2)
    clear c2 t2
    go_wp2
    go_ret
    rw [HS.out]
    exact ⟨rfl, HF.out.1, HT.out.trans HF.out.2⟩
  by_cases k3 : kind = 3
  · subst k3
    have HS : Hid (stepSt st 3 n = nextSt st (4 : Nat)) := rfl
    go_enter Try.func39, Try.ntmps39
    go_wp2_with fail
    rw [← HW.out]
    refine (u32_any HD.out.c hbg).mono ?_
    rintro e w1 ⟨rfl, c1, t1⟩
    have HD1 := hide (HD.out.mid t1)
    have HC1 := hide c1
    have HT1 := hide t1
    clear c1 t1
    go_wp2_with fail
    refine (ru32_any HD1.out hbr).mono ?_
    rintro e w2 ⟨rfl, c2, t2⟩
    have HF := hide (HD.out.step HC1.out HT1.out c2 t2)
    clear c2 t2
    go_wp2
    go_ret
    rw [HS.out]
    exact ⟨rfl, HF.out.1, HT.out.trans HF.out.2⟩
  by_cases k4 : kind = 4
  · subst k4
    have HS : Hid (stepSt st 4 n = nextSt st n) := rfl
    go_enter Try.func39, Try.ntmps39
    go_wp2_with fail
    rw [← HW.out]
    refine (text_any HD.out.c n hbg).mono ?_
    rintro e w1 ⟨rfl, c1, t1⟩
    have HD1 := hide (HD.out.mid t1)
    have HC1 := hide c1
    have HT1 := hide t1
    have hq : w1.cell? ⟨w.heap.size, 1, none⟩ = some (.int .i64 n) := by rw [← HZ.out]; exact box_keep HT1.out HG.out hz1
    clear c1 t1
    go_wp2_with fail
    refine (rtext_any HD1.out n hbr).mono ?_
    rintro e w2 ⟨rfl, c2, t2⟩
    have HF := hide (HD.out.step HC1.out HT1.out c2 t2)
    clear c2 t2
    go_wp2
    go_ret
    rw [HS.out]
    exact ⟨rfl, HF.out.1, HT.out.trans HF.out.2⟩
  by_cases k5 : kind = 5
  · subst k5
    have HS : Hid (stepSt st 5 n = nextSt st n) := rfl
    go_enter Try.func39, Try.ntmps39
    go_wp2_with fail
    rw [← HW.out]
    refine (skip_any HD.out.c n hbg).mono ?_
    rintro e w1 ⟨rfl, c1, t1⟩
    have HD1 := hide (HD.out.mid t1)
    have HC1 := hide c1
    have HT1 := hide t1
    have hq : w1.cell? ⟨w.heap.size, 1, none⟩ = some (.int .i64 n) := by rw [← HZ.out]; exact box_keep HT1.out HG.out hz1
    clear c1 t1
    go_wp2_with fail
    refine (rskip_any HD1.out n hbr).mono ?_
    rintro e w2 ⟨rfl, c2, t2⟩
    have HF := hide (HD.out.step HC1.out HT1.out c2 t2)
    clear c2 t2
    go_wp2
    go_ret
    rw [HS.out]
    exact ⟨rfl, HF.out.1, HT.out.trans HF.out.2⟩
  by_cases k6 : kind = 6
  · subst k6
    have HS : Hid (stepSt st 6 n = seekSt st n) := rfl
    go_enter Try.func39, Try.ntmps39
    go_wp2_with fail
    rw [← HW.out]
    refine (seek_any HD.out.c n hbg).mono ?_
    rintro e w1 ⟨rfl, c1, t1⟩
    have HD1 := hide (HD.out.mid t1)
    have HC1 := hide c1
    have HT1 := hide t1
    have hq : w1.cell? ⟨w.heap.size, 1, none⟩ = some (.int .i64 n) := by rw [← HZ.out]; exact box_keep HT1.out HG.out hz1
    clear c1 t1
    go_wp2_with fail
    refine (rseek_any HD1.out n hbr).mono ?_
    rintro e w2 ⟨rfl, c2, t2⟩
    have HF := hide (HD.out.step HC1.out HT1.out c2 t2)
    clear c2 t2
    go_wp2
    go_ret
    rw [HS.out]
    exact ⟨rfl, HF.out.1, HT.out.trans HF.out.2⟩
  by_cases k7 : kind = 7
  · subst k7
    have HS : Hid (stepSt st 7 n = st) := rfl
    go_enter Try.func39, Try.ntmps39
    go_wp2_with fail
    rw [← HW.out]
    refine (at_any HD.out.c).mono ?_
    rintro e w' ⟨rfl, hw'⟩
    subst hw'
    go_wp2_with fail
    refine (rat_any HD.out.d).mono ?_
    rintro e w'' ⟨rfl, hw''⟩
    subst hw''
    go_wp2
    go_ret
    rw [HS.out]
    exact ⟨rfl, HD.out, HT.out⟩
  by_cases k8 : kind = 8
  · subst k8
    have HS : Hid (stepSt st 8 n = st) := rfl
    go_enter Try.func39, Try.ntmps39
    go_wp2_with fail
    rw [← HW.out]
    refine (left_any HD.out.c).mono ?_
    rintro e w1 ⟨rfl, q1, hw1⟩
    subst hw1
    go_wp2_with fail
    refine (rleft_any (w := W.drewN q1) (HD.out.mid ((Tch.refl B g W).drewN q1))).mono ?_
    rintro e w2 ⟨rfl, q2, hw2⟩
    subst hw2
    go_wp2
    go_ret
    rw [HS.out]
    exact ⟨rfl, HD.out.drewN _, HT.out.trans (((Tch.refl B g W).drewN _).fst r)⟩
  by_cases k9 : kind = 9
  · subst k9
    have HS : Hid (stepSt st 9 n = st) := rfl
    go_enter Try.func39, Try.ntmps39
    go_wp2_with fail
    rw [← HW.out]
    refine (err_any HD.out.c).mono ?_
    rintro e w' ⟨rfl, hw'⟩
    subst hw'
    go_wp2_with fail
    refine (num_any _ _).mono ?_
    rintro e w'' ⟨rfl, hw''⟩
    subst hw''
    go_wp2_with fail
    refine (rerr_any HD.out.d).mono ?_
    rintro e w''' ⟨rfl, hw'''⟩
    subst hw'''
    go_wp2
    go_ret
    rw [HS.out]
    exact ⟨rfl, HD.out, HT.out⟩
  have HS : Hid (stepSt st kind n = st) := by
    show _ = _
    unfold stepSt
    rw [if_neg k1, if_neg k2, if_neg k3, if_neg k4, if_neg k5, if_neg k6]
  go_enter Try.func39, Try.ntmps39
  go_wp2
  go_ret
  rw [HS.out, ← HW.out]
  exact ⟨rfl, HD.out, HT.out⟩
end Go.Proofs.Ythjgabncifghaab
