import Derived.Test.YtfoglaajnlbnbaaGreatDoorG28Ms5
import Derived.Test.YtfoglaajnlbnbaaGreatDoorG03Lsk
import Derived.Test.YtfoglaajnlbnbaaGreatDoorG01Sym
import Derived.Test.YtfoglaajnlbnbaaGreatDoorG26Dcd
import Derived.Test.YtfoglaajnlbnbaaGreatDoorG19Fxc
namespace Go.Proofs.YtfoglaajnlbnbaaGreatDoor
open Go.RowKit Go.Maps
set_option maxRecDepth 20000
set_option linter.unusedVariables false

def lsb (P : List Int) (s : Nat) : Int := P.getD s 0 + (if 256 < s then (LF (s - 257) : Int) else 0)
def bdL (F P : List Int) : Nat → Int
  | 0 => 0
  | k + 1 => bdL F P k + F.getD k 0 * lsb P k
def bdD (G Q : List Int) : Nat → Int
  | 0 => 0
  | k + 1 => bdD G Q k + G.getD k 0 * (Q.getD k 0 + (DF k : Int))

theorem lsb_bd {P : List Int} {s : Nat} (h : ∀ i, 0 ≤ P.getD i 0 ∧ P.getD i 0 ≤ 15) (hs : s < 286) : 0 ≤ lsb P s ∧ lsb P s ≤ 20 := by
  have h1 := h s
  unfold lsb
  split
  · have := (lfLe (s - 257) (by omega)).1
    omega
  · omega

end Go.Proofs.YtfoglaajnlbnbaaGreatDoor

namespace Go.Proofs.YtfoglaajnlbnbaaGreatDoor
open Go.RowKit Go.Maps
set_option maxRecDepth 20000
set_option linter.unusedVariables false

theorem sd_ok {R : List Tk} (h : sdE R = 0) : asnd R = true ∧ sdN R = lsay R ∧ 0 ≤ lsay R ∧ lsay R ≤ 65535 ∧ R.length ≤ 65535 := by
  unfold sdE at h
  by_cases ha : asnd R = true
  · rw [if_pos ha] at h
    by_cases hb : 65535 < lsay R
    · rw [if_pos hb] at h; omega
    · have hi := lsay_in R ha
      have hge : ∀ A : List Tk, asnd A = true → (A.length : Int) ≤ lsay A := by
        intro A
        induction A with
        | nil => intro _; simp [lsay]
        | cons t A ih =>
          intro hs
          simp only [asnd, List.all_cons, Bool.and_eq_true] at hs
          have h1 := ih hs.2
          have h2 : Snd t := of_decide_eq_true hs.1
          have h3 : 1 ≤ lsayT t := by
            unfold lsayT
            unfold Snd at h2
            split
            · omega
            · rename_i q; rw [if_neg q] at h2; omega
          have h4 : lsay (t :: A) = lsayT t + lsay A := by simp [lsay]
          rw [h4, List.length_cons]
          omega
      have := hge R ha
      exact ⟨ha, by unfold sdN; rw [if_pos ha, if_neg hb], hi.1, by omega, by omega⟩
  · rw [if_neg ha] at h; omega

end Go.Proofs.YtfoglaajnlbnbaaGreatDoor

namespace Go.Proofs.YtfoglaajnlbnbaaGreatDoor
open Go.RowKit Go.Maps
set_option maxRecDepth 20000

theorem ep_ok {l row : List Int} {s : Int} (h : lnI l s ≠ 0) (hr : row.length + 15 ≤ 268435456) (hl : Lens l) : epE l row s = 0 ∧ epR l row s = row ++ wb l s.toNat := by
  obtain ⟨h1, h2, h3⟩ := lnI_has h
  have := (hl.ln s.toNat).2
  have e : epE l row s = 0 := by unfold epE; rw [if_neg h, if_pos (by omega)]
  exact ⟨e, by unfold epR; rw [if_pos e]⟩

end Go.Proofs.YtfoglaajnlbnbaaGreatDoor

namespace Go.Proofs.YtfoglaajnlbnbaaGreatDoor
open Go.RowKit Go.Maps
set_option maxRecDepth 20000
set_option linter.unusedVariables false
set_option linter.unusedSimpArgs false

theorem sum_filter10 (q : Nat → Bool) (g : Nat → Nat) : ∀ L : List Nat, (∀ s ∈ L, q s = false → g s = 0) → ((L.filter q).map g).sum = (L.map g).sum
  | [], _ => rfl
  | a :: L, h => by
    have ih := sum_filter10 q g L fun s hs => h s (List.mem_cons_of_mem _ hs)
    cases e : q a with
    | true => rw [List.filter_cons_of_pos e, List.map_cons, List.map_cons, List.sum_cons, List.sum_cons, ih]
    | false => rw [List.filter_cons_of_neg (by simp [e]), List.map_cons, List.sum_cons, ih, h a (List.mem_cons_self ..) e, Nat.zero_add]

theorem usum_range10 (o : List Int) : usum o = ((List.range o.length).map fun s => wt (o.getD s 0)).sum := by
  unfold usum
  congr 1
  apply List.ext_getElem
  · simp
  · intro i h1 h2
    simp at h1
    simp [h1]

theorem tsum_range10 (o : List Int) : tsum o = ((List.range o.length).map fun s => one (o.getD s 0)).sum := by
  unfold tsum
  congr 1
  apply List.ext_getElem
  · simp
  · intro i h1 h2
    simp at h1
    simp [h1]

theorem gd_code10 {f l : List Int} {L : Nat} (hs : Sound f) (hL : L ≤ 15) (h : Gd f l L) : bkE l = 0 ∧ (us6 f ≠ [] → dcE l = 0) ∧ ∀ s, s ∈ us6 f → lnI l (s : Int) ≠ 0 := by
  have hat : ∀ i, 0 ≤ l.getD i 0 ∧ l.getD i 0 ≤ 15 := fun i => by
    by_cases c : i < f.length
    · by_cases z : f.getD i 0 = 0
      · rw [h.zero i c z]; omega
      · have := h.ok i (mem_us.2 ⟨c, by have := hs.nn i; omega⟩)
        omega
    · rw [List.getD_eq_getElem?_getD, List.getElem?_eq_none (by rw [h.len]; omega)]
      exact ⟨Int.le_refl _, by decide⟩
  have hlens : Lens l := ⟨by rw [h.len]; exact hs.len, fun x hx => by
    obtain ⟨i, hi, rfl⟩ := List.getElem_of_mem hx
    have := hat i
    rw [List.getD_eq_getElem?_getD, List.getElem?_eq_getElem hi] at this
    exact this⟩
  have hck : chkE l = 0 := by unfold chkE; rw [if_neg (by have := hlens.1; omega), if_pos hlens]
  have hlen := h.len
  have hz : ∀ s ∈ List.range f.length, decide (0 < f.getD s 0) = false → l.getD s 0 = 0 := fun s hsr h0 => by
    have hsr := List.mem_range.1 hsr
    exact h.zero s hsr (by have := hs.nn s; simp only [decide_eq_false_iff_not] at h0; omega)
  have eu : usum l = ((us6 f).map fun s => wt (l.getD s 0)).sum := by
    rw [usum_range10, hlen]
    unfold us6 usk
    rw [sum_filter10]
    intro s hsr h0
    rw [hz s hsr h0]
    rfl
  have et : tsum l = ((us6 f).map fun s => one (l.getD s 0)).sum := by
    rw [tsum_range10, hlen]
    unfold us6 usk
    rw [sum_filter10]
    intro s hsr h0
    rw [hz s hsr h0]
    rfl
  have hok : ∀ s ∈ us6 f, 1 ≤ l.getD s 0 ∧ l.getD s 0 ≤ 15 := fun s hm => by
    have := h.ok s hm
    omega
  have et2 : tsum l = (us6 f).length := by
    rw [et]
    have : ∀ Q : List Nat, (∀ s ∈ Q, 1 ≤ l.getD s 0 ∧ l.getD s 0 ≤ 15) → (Q.map fun s => one (l.getD s 0)).sum = Q.length := by
      intro Q hQ
      induction Q with
      | nil => rfl
      | cons a Q ih =>
        have ha := hQ a (List.mem_cons_self ..)
        rw [List.map_cons, List.sum_cons, ih (fun s hs => hQ s (List.mem_cons_of_mem _ hs)), List.length_cons]
        unfold one
        rw [if_pos (by omega)]
        omega
    exact this _ hok
  have ek : kr (nn l) (us6 f) = 2 ^ 45 * usum l := by
    rw [eu]
    unfold kr
    have : ∀ Q : List Nat, (∀ s ∈ Q, 1 ≤ l.getD s 0 ∧ l.getD s 0 ≤ 15) → (Q.map fun s => 2 ^ (60 - nn l s)).sum = 2 ^ 45 * (Q.map fun s => wt (l.getD s 0)).sum := by
      intro Q hQ
      induction Q with
      | nil => rfl
      | cons a Q ih =>
        have ha := hQ a (List.mem_cons_self ..)
        rw [List.map_cons, List.map_cons, List.sum_cons, List.sum_cons, ih (fun s hs => hQ s (List.mem_cons_of_mem _ hs)), Nat.mul_add]
        congr 1
        unfold nn wt
        rw [if_pos (by omega), ← Nat.pow_add]
        congr 1
        omega
    exact this _ hok
  have hshp : shp l = 0 ∨ shp l = 1 ∨ shp l = 4 := by
    unfold shp
    by_cases c0 : (us6 f).length = 0
    · rw [if_pos (by rw [et2, c0])]; exact .inl rfl
    · rw [if_neg (by rw [et2]; exact c0)]
      by_cases c1 : (us6 f).length = 1
      · have hu1 : usum l = 16384 := by
          rw [eu]
          match hu : us6 f with
          | [] => rw [hu] at c0; simp at c0
          | [a] =>
            have := h.one c1 a (by rw [hu]; simp)
            rw [List.map_cons, this]; rfl
          | a :: b :: r => rw [hu] at c1; simp at c1
        rw [if_pos ⟨by rw [et2]; exact c1, hu1⟩]; exact .inr (.inl rfl)
      · have hall := h.all (by omega)
        rw [ek] at hall
        have hu4 : usum l = 32768 := by
          have : (2 : Nat) ^ 60 = 2 ^ 45 * 32768 := by decide
          rw [this] at hall
          exact Nat.eq_of_mul_eq_mul_left (by decide) hall
        rw [if_neg (by omega), if_neg (by omega), if_pos hu4]; exact .inr (.inr rfl)
  have hbk : bkE l = 0 := by unfold bkE; rw [if_neg (by simp [hck]), if_neg (by omega), if_neg (by omega)]
  refine ⟨hbk, fun hne => ?_, fun s hm => ?_⟩
  · have h0 : shp l ≠ 0 := by
      unfold shp
      rw [if_neg (by rw [et2]; cases hu : us6 f with | nil => exact absurd hu hne | cons a r => simp)]
      split
      · decide
      · split
        · decide
        · split <;> decide
    unfold dcE
    rw [if_neg (by simp [hbk]), if_neg h0]
  · have h1 := hok s hm
    have h2 := (mem_us.1 hm).1
    unfold lnI
    rw [if_pos ⟨by omega, by omega⟩]
    unfold ln
    simp only [Int.toNat_natCast]
    omega

noncomputable def tokB (P Q : List Int) (t : Tk) : List Int :=
  if t.1 = 0 then wb P (litS t) else wb P (litS t) ++ bts (t.1 - (LB (lsy t.1.toNat) : Int)) (LF (lsy t.1.toNat)) ++ (wb Q (dsy t.2.1.toNat) ++ bts (t.2.1 - (DB (dsy t.2.1.toNat) : Int)) (DF (dsy t.2.1.toNat)))
noncomputable def bodB (P Q : List Int) (R : List Tk) : List Int := R.flatMap (tokB P Q)

noncomputable def tokZ (P Q : List Int) (t : Tk) : Int := lsb P (litS t) + if t.1 = 0 then 0 else Q.getD (dsy t.2.1.toNat) 0 + (DF (dsy t.2.1.toNat) : Int)

theorem tokB_len {P Q : List Int} (hP : ∀ i, 0 ≤ P.getD i 0 ∧ P.getD i 0 ≤ 15) (hQ : ∀ i, 0 ≤ Q.getD i 0 ∧ Q.getD i 0 ≤ 15) {t : Tk} (h : Snd t) (hb : Bt t) : ((tokB P Q t).length : Int) = tokZ P Q t := by
  have e1 := hP (litS t)
  have e2 := hQ (dsy t.2.1.toNat)
  unfold tokB tokZ lsb
  by_cases c : t.1 = 0
  · have hl : ¬ 256 < litS t := by
      unfold litS
      rw [if_pos c]
      have := hb.2
      omega
    rw [if_pos c, if_pos c, if_neg hl, wb_len]
    unfold ln
    omega
  · have hl : 256 < litS t := by unfold litS; rw [if_neg c]; omega
    have hs : litS t - 257 = lsy t.1.toNat := by unfold litS; rw [if_neg c]; omega
    rw [if_neg c, if_neg c, if_pos hl, hs, List.length_append, List.length_append, List.length_append, wb_len, wb_len, length_bts, length_bts]
    unfold ln
    omega

theorem bod_snoc (P Q : List Int) (R : List Tk) (t : Tk) : bodB P Q (R ++ [t]) = bodB P Q R ++ tokB P Q t := by simp [bodB]

def Wds (P Q : List Int) (R : List Tk) : Prop := lnI P 256 ≠ 0 ∧ ∀ t ∈ R, lnI P (litS t : Int) ≠ 0 ∧ (t.1 ≠ 0 → lnI Q (dsy t.2.1.toNat : Int) ≠ 0)

theorem inc_get {l : List Int} {i j : Nat} (h : ∀ k, 0 ≤ l.getD k 0) : l.getD j 0 ≤ (inc l i).getD j 0 ∧ (i = j → i < l.length → 0 < (inc l i).getD j 0) := by
  unfold inc
  by_cases c : i = j
  · subst c
    by_cases d : i < l.length
    · have e : (l.set i (l.getD i 0 + 1)).getD i 0 = l.getD i 0 + 1 := by rw [List.getD_eq_getElem?_getD, List.getElem?_set_self d]; rfl
      rw [e]
      have := h i
      exact ⟨by omega, fun _ _ => by omega⟩
    · rw [List.set_eq_of_length_le (by omega)]
      exact ⟨Int.le_refl _, fun _ q => absurd q d⟩
  · have e : (l.set i (l.getD i 0 + 1)).getD j 0 = l.getD j 0 := by rw [List.getD_eq_getElem?_getD, List.getElem?_set_ne c, ← List.getD_eq_getElem?_getD]
    rw [e]
    exact ⟨Int.le_refl _, fun q => absurd q c⟩

theorem cl_nn {l : List Int} (h : ∀ k, 0 ≤ l.getD k 0) (i : Nat) : ∀ k, 0 ≤ (inc l i).getD k 0 := fun k => Int.le_trans (h k) (inc_get h).1

theorem cls_up : ∀ (R : List Tk) (l : List Int), (∀ k, 0 ≤ l.getD k 0) → (∀ k, 0 ≤ (cls l R).getD k 0) ∧ ∀ k, l.getD k 0 ≤ (cls l R).getD k 0
  | [], l, h => ⟨h, fun _ => Int.le_refl _⟩
  | t :: R, l, h => by
    have ih := cls_up R (cl l t) (cl_nn h _)
    exact ⟨ih.1, fun k => Int.le_trans (inc_get h).1 (ih.2 k)⟩

theorem cls_used : ∀ (R : List Tk) (l : List Int), (∀ k, 0 ≤ l.getD k 0) → l.length = 286 → (∀ t ∈ R, Snd t ∧ Bt t) → ∀ t ∈ R, 0 < (cls l R).getD (litS t) 0
  | [], l, h, _, _, t, ht => by cases ht
  | a :: R, l, h, hl, hs, t, ht => by
    rcases List.mem_cons.1 ht with rfl | ht
    · have h1 := (inc_get (l := l) (i := litS t) (j := litS t) h).2 rfl (by rw [hl]; exact (litS_in (hs t (List.mem_cons_self ..)).1 (hs t (List.mem_cons_self ..)).2).1)
      exact Int.lt_of_lt_of_le h1 ((cls_up R (cl l t) (cl_nn h _)).2 _)
    · exact cls_used R (cl l a) (cl_nn h _) (by rw [cl_len]; exact hl) (fun x hx => hs x (List.mem_cons_of_mem _ hx)) t ht

theorem cd_nn {d : List Int} (h : ∀ k, 0 ≤ d.getD k 0) (t : Tk) : (∀ k, 0 ≤ (cd d t).getD k 0) ∧ ∀ k, d.getD k 0 ≤ (cd d t).getD k 0 := by
  unfold cd
  split
  · exact ⟨h, fun _ => Int.le_refl _⟩
  · exact ⟨cl_nn h _, fun k => (inc_get h).1⟩

theorem cdt_up : ∀ (R : List Tk) (d : List Int), (∀ k, 0 ≤ d.getD k 0) → (∀ k, 0 ≤ (cdt d R).getD k 0) ∧ ∀ k, d.getD k 0 ≤ (cdt d R).getD k 0
  | [], d, h => ⟨h, fun _ => Int.le_refl _⟩
  | t :: R, d, h => by
    have ih := cdt_up R (cd d t) (cd_nn h t).1
    exact ⟨ih.1, fun k => Int.le_trans ((cd_nn h t).2 k) (ih.2 k)⟩

theorem cdt_used : ∀ (R : List Tk) (d : List Int), (∀ k, 0 ≤ d.getD k 0) → d.length = 30 → (∀ t ∈ R, Snd t ∧ Bt t) → ∀ t ∈ R, t.1 ≠ 0 → 0 < (cdt d R).getD (dsy t.2.1.toNat) 0
  | [], d, h, _, _, t, ht, _ => by cases ht
  | a :: R, d, h, hl, hs, t, ht, h0 => by
    rcases List.mem_cons.1 ht with rfl | ht
    · have hi := dsy_in (hs t (List.mem_cons_self ..)).1 h0
      have h1 : 0 < (cd d t).getD (dsy t.2.1.toNat) 0 := by
        unfold cd
        rw [if_neg h0]
        exact (inc_get (l := d) (i := dsy t.2.1.toNat) (j := dsy t.2.1.toNat) h).2 rfl (by rw [hl]; exact hi)
      exact Int.lt_of_lt_of_le h1 ((cdt_up R (cd d t) (cd_nn h t).1).2 _)
    · exact cdt_used R (cd d a) (cd_nn h a).1 (by rw [cd_len]; exact hl) (fun x hx => hs x (List.mem_cons_of_mem _ hx)) t ht h0

theorem rep_nn (n : Nat) : ∀ k, 0 ≤ (List.replicate n (0 : Int)).getD k 0 := fun k => by
  rw [List.getD_eq_getElem?_getD, List.getElem?_replicate]; split <;> exact Int.le_refl _

theorem asnd_all10 {R : List Tk} (h : asnd R = true) (hb : ∀ t ∈ R, Bt t) : ∀ t ∈ R, Snd t ∧ Bt t := fun t ht => ⟨asnd_all h t ht, hb t ht⟩

theorem dyn_ok {R : List Tk} (hn : R.length ≤ 16777216) (ha : asnd R = true) (hb : ∀ t ∈ R, Bt t) : bkE (lmL (ctL R) 15) = 0 ∧ bkE (lmL (ctD R) 15) = 0 ∧ Wds (lmL (ctL R) 15) (lmL (ctD R) 15) R ∧ (lmL (ctL R) 15).length = 286 ∧ (lmL (ctD R) 15).length = 30 ∧ lmL (ctL R) 15 = lmt (ctL R) 15 ∧ lmL (ctD R) 15 = lmt (ctD R) 15 := by
  obtain ⟨c0, c1, c2, c3, c4⟩ := ctl_facts hn ha
  have hall := asnd_all10 ha hb
  have s1 := cnt_sound (l := ctL R) (by rw [c1]; omega) c3 (Nat.le_refl _)
  have s2 := cnt_sound (l := ctD R) (by rw [c2]; omega) c4 (Nat.le_refl _)
  obtain ⟨m1, u1⟩ := cnt_lmE (l := ctL R) (by rw [c1]; omega) c3 (Nat.le_refl _)
  obtain ⟨m2, u2⟩ := cnt_lmE (l := ctD R) (by rw [c2]; omega) c4 (Nat.le_refl _)
  have e1 : lmL (ctL R) 15 = lmt (ctL R) 15 := by
    have := (s1.lmE (L := 15) (by omega)).2
    rw [if_neg (by omega)] at this
    exact this
  have e2 : lmL (ctD R) 15 = lmt (ctD R) 15 := by
    have := (s2.lmE (L := 15) (by omega)).2
    rw [if_neg (by omega)] at this
    exact this
  have g1 := gd_lmt s1 (by omega) u1
  have g2 := gd_lmt s2 (by omega) u2
  have k1 := gd_code10 s1 (Nat.le_refl _) g1
  have k2 := gd_code10 s2 (Nat.le_refl _) g2
  have f1 : ctL R = (cls (List.replicate 286 0) R).set 256 1 := by unfold ctL; rw [if_pos c0]
  have f2 : ctD R = cdt (List.replicate 30 0) R := by unfold ctD; rw [if_pos c0]
  have hL : ctL R = cls (inc (List.replicate 286 0) 256) R := by rw [f1, ← cls_end R _ hall]; rfl
  rw [e1, e2]
  refine ⟨k1.1, k2.1, ⟨?_, fun t ht => ⟨k1.2.2 _ (mem_us.2 ⟨by rw [c1]; exact (litS_in (hall t ht).1 (hall t ht).2).1, ?_⟩), fun h0 => k2.2.2 _ (mem_us.2 ⟨by rw [c2]; exact dsy_in (hall t ht).1 h0, ?_⟩)⟩⟩, by rw [lmt_len, c1], by rw [lmt_len, c2], rfl, rfl⟩
  · refine k1.2.2 256 (mem_us.2 ⟨by rw [c1]; omega, ?_⟩)
    rw [f1, List.getD_eq_getElem?_getD, List.getElem?_set_self (by rw [cls_len, List.length_replicate]; omega)]
    decide
  · rw [hL]
    exact cls_used R _ (cl_nn (rep_nn 286) 256) (by rw [inc_len, List.length_replicate]) hall t ht
  · rw [f2]
    exact cdt_used R _ (rep_nn 30) (List.length_replicate ..) hall t ht h0
end Go.Proofs.YtfoglaajnlbnbaaGreatDoor

namespace Go.Proofs.YtfoglaajnlbnbaaGreatDoor
open Go.RowKit Go.Maps
set_option maxRecDepth 20000

set_option linter.unusedSimpArgs false in
set_option maxHeartbeats 4000000 in
theorem bytes_any {w : World} {K : Nat → Nat} {g : Nat} {v : Value} {d : List Int} {r : Int} {h : Nat} {row : List Int} (H0 : WW w K g v d r h) (L : Lies row d r h) (u : Value) (l : List Int) (hB : Byt l)
    (HS : ∀ wr K1 v1 n1, Fr K K1 w wr → Stays g w wr v d.length v1 n1 → SB wr u l) (hl : row.length + 8 * l.length ≤ 268435456) :
    Calls Tryz.prog 64 #[.pointer (some ⟨g, 0, none⟩), u] w fun e w' => e = .returned (.tuple #[]) ∧ ∃ K' v' d' r' h', WW w' K' g v' d' r' h' ∧ Lies (row ++ unpack l) d' r' h' ∧ Fr K K' w w' := by
  have H := hide H0
  have HSB := hide HS
  have c0 : w.cell? ⟨g, 0, none⟩ = some v := H0.cell 0
  have c1 : w.cell? ⟨g, 1, none⟩ = some (.int .u64 r) := H0.cell 1
  have c2 : w.cell? ⟨g, 2, none⟩ = some (.int .i64 h) := H0.cell 2
  have hfz := H0.free
  have hgl := H0.lt
  obtain ⟨a, c, rfl⟩ := H0.o.shape
  obtain ⟨ua, uc, hu, _⟩ := HS w K _ _ (Fr.refl _ _) (Stays.refl _ _ _ _)
  subst hu
  have hh := L.h8
  have hll := L.len
  have HL := hide L
  have HBy := hide hB
  clear H0 L HS hB
  by_cases h0 : h = 0
  · subst h0
    have HSRC : Hid (Src Tryz.prog 1 28 (.slice ua l.length uc) l.length (l.map (Value.int .u8)) w) := (HSB.out w K _ _ (Fr.refl _ _) (Stays.refl _ _ _ _)).src
    have HLEN : Hid (d.length + l.length ≤ 140737488355328) := by show _ ≤ _; omega
    go_enter Tryz.func64, Tryz.ntmps64
    go_wp2_with (at_builtin; refine wpList_app rfl _ _ 28 rfl 0 _ (.slice ua l.length uc) d l rfl H.out.o rfl HSRC.out HLEN.out (Nat.zero_le _) ?_)
    intro v6 w6 hown6 hgrow6
    have e2 : w6.heap[g]? = _ := (hgrow6.by.block g hgl (fun e => H.out.ng e.symm)).trans H.out.s
    have t0 : w6.cell? ⟨g, 0, none⟩ = some (.slice a d.length c) := by simp [World.cell?, e2]
    have tf : w6.frozen? ⟨g, 0, none⟩ = false := by simp [World.frozen?, e2]
    have HN : Hid (∃ K' v' d' r' h', WW (w6.setCell ⟨g, 0, none⟩ v6) K' g v' d' r' h' ∧ Lies (row ++ unpack l) d' r' h' ∧ Fr K K' w (w6.setCell ⟨g, 0, none⟩ v6)) := by
      obtain ⟨K', a1, a2⟩ := H.out.put (w1 := w6) hgrow6.by hown6 (by
        rcases hgrow6.at with e | e
        · exact .inr (fun k hk => by rw [e] at hk; cases hk; exact Nat.le_refl _)
        · exact .inl e)
      refine ⟨K', _, _, r, 0, a1, ⟨?_, byt_append HL.out.b HBy.out, HL.out.r0, HL.out.r1, HL.out.h8⟩, a2⟩
      rw [HL.out.e, unpack_append]
      simp [bts]
    obtain ⟨a6, c6, rfl⟩ := hown6.shape
    rw [List.length_append] at HN
    clear hown6 hgrow6 e2
    go_wp2
    (try simp only [Exit.inBlock, Exit.then]); refine bodyPost_ret (results_none rfl _ _ _) rfl ?_
    exact ⟨rfl, HN.out⟩
  · have h0' : (0 : Int) < h := by omega
    have h0b : ((h : Int) == 0) = false := by simp; omega
    go_enter Tryz.func64, Tryz.ntmps64
    go_wp2_with fail
    refine (grow_any _ d l.length w H.out.o (by omega) (by omega)).mono ?_
    rintro e w1 ⟨a1, p1, rfl, ho1, hg1⟩
    have hgl1 : w1.heap[g]? = _ := (hg1.by.block g hgl (fun e => H.out.ng e.symm)).trans H.out.s
    have t0 : w1.cell? ⟨g, 0, none⟩ = some (.slice a d.length c) := by simp [World.cell?, hgl1]
    have tf : w1.frozen? ⟨g, 0, none⟩ = false := by simp [World.frozen?, hgl1]
    have HST : Hid (∃ K1, WW (w1.setCell ⟨g, 0, none⟩ (.slice a1 d.length p1)) K1 g (.slice a1 d.length p1) d r h ∧ Fr K K1 w (w1.setCell ⟨g, 0, none⟩ (.slice a1 d.length p1)) ∧ Stays g w (w1.setCell ⟨g, 0, none⟩ (.slice a1 d.length p1)) (.slice a d.length c) d.length (.slice a1 d.length p1) d.length) := by
      have hat : (Value.slice a1 d.length p1).ownBlock = (Value.slice a d.length c).ownBlock ∨ ∀ k, (Value.slice a1 d.length p1).ownBlock = some k → w.heap.size ≤ k := by
        rcases hg1.at with e | e
        · exact .inr (fun k hk => by rw [e] at hk; cases hk; exact Nat.le_refl _)
        · exact .inl e
      obtain ⟨K', b1, b2⟩ := H.out.put (w1 := w1) hg1.by ho1 hat
      refine ⟨K', b1, b2, fun b i hb hbg hi => ?_, hat, Nat.le_refl _, b2.size⟩
      rw [World.cell?_of_block (setCell_others w1 g 0 _ b hbg)]
      exact hg1.stays (news := []) H.out.o (by simpa using ho1) hb hi
    clear ho1 hg1 hgl1
    go_wp2
    clear t0 tf c0 c1 c2 hfz hgl h0b h0'
    go_loopw [32] (fun i wr => ∃ k : Nat, k ≤ l.length ∧ i = .int .i64 k ∧ Hid (∃ K1 v1 d1 r1 h1, WW wr K1 g v1 d1 r1 h1 ∧ Lies (row ++ unpack (l.take k)) d1 r1 h1 ∧ Fr K K1 w wr ∧ Stays g w wr (.slice a d.length c) d.length v1 d1.length)) (fun i _ => l.length - (intOf i).toNat)
    case atStart =>
      obtain ⟨K1, b1, b2, b3⟩ := HST.out
      exact ⟨0, Nat.zero_le _, rfl, K1, _, d, r, h, b1, by simpa [unpack] using HL.out, b2, b3⟩
    case round =>
      clear HST
      obtain ⟨k, hk, rfl, HQ⟩ := hrel
      obtain ⟨K1, v1, d1, r1, h1, hW, hLi, hF, hS⟩ := HQ.out
      clear HQ
      have HW := hide hW
      have HLi := hide hLi
      have HF := hide hF
      have HS := hide hS
      have hlen := hLi.len
      rw [List.length_append, length_unpack, List.length_take] at hlen
      have hsb := HSB.out wr K1 _ _ hF hS
      clear hW hLi hF hS
      by_cases hlt : k < l.length
      · have hlt' : (k : Int) < (l.length : Int) := by omega
        obtain ⟨ao, uc', hue, hc1, hc2, hc3, hc4⟩ := hsb
        simp only [Value.slice.injEq] at hue
        obtain ⟨rfl, -, rfl⟩ := hue
        cases ua with
        | none => have := hc3 rfl; omega
        | some x0 =>
        obtain ⟨b, o, rfl⟩ := addr_lit (hc4 x0 rfl 0 (by omega))
        obtain ⟨q, hq, HQ⟩ : ∃ q, wr.cell? ⟨b, o + k, none⟩ = some (.int .u8 q) ∧ Hid (q = l.getD k 0) := by
          have := hc4 _ rfl k hlt
          rw [Addr.add_lit] at this
          exact ⟨_, this, rfl⟩
        have hq01 : 0 ≤ q ∧ q < 256 := by rw [HQ.out]; exact HBy.out k
        obtain ⟨hq0, hq1⟩ := hq01
        unfold maxLen at hc2
        clear hc3 hc4
        go_wp2_with fail
        refine (put_any HW.out HLi.out q 8 hq0 hq1 (by omega) (by omega)).mono ?_
        rintro e w2 ⟨rfl, K2, v2, d2, r2, h2, b1, b2, b3, b4⟩
        have HN : Hid (∃ K1 v1 d1 r1 h1, WW w2 K1 g v1 d1 r1 h1 ∧ Lies (row ++ unpack (l.take (k + 1))) d1 r1 h1 ∧ Fr K K1 w w2 ∧ Stays g w w2 (.slice a d.length c) d.length v1 d1.length) := by
          refine ⟨K2, v2, d2, r2, h2, b1, ?_, HF.out.trans b3, HS.out.trans b4⟩
          have e : l.take (k + 1) = l.take k ++ [q] := by
            rw [List.take_succ_eq_append_getElem hlt, HQ.out]
            simp [List.getD, hlt]
          rw [e, unpack_append, unpack_one, ← List.append_assoc]
          exact b2
        clear b1 b2 b3 b4 hq
        go_wp2
        go_roundw
        case rel => exact ⟨k + 1, by omega, by go_num, HN.out⟩
        case measure => simp [intOf]; omega
      · obtain rfl : k = l.length := by omega
        clear hsb
        have hlt' : ¬ (l.length : Int) < (l.length : Int) := by omega
        have HFIN : Hid (∃ K' v' d' r' h', WW wr K' g v' d' r' h' ∧ Lies (row ++ unpack l) d' r' h' ∧ Fr K K' w wr) := by
          refine ⟨K1, v1, d1, r1, h1, HW.out, ?_, HF.out⟩
          have := HLi.out
          rwa [List.take_of_length_le (Nat.le_refl _)] at this
        go_wp2
        (try simp only [Exit.inBlock, Exit.then]); refine bodyPost_end (results_none rfl _ _ _) rfl ?_
        exact ⟨rfl, HFIN.out⟩
end Go.Proofs.YtfoglaajnlbnbaaGreatDoor

namespace Go.Proofs.YtfoglaajnlbnbaaGreatDoor
open Go.RowKit Go.Maps
set_option maxRecDepth 20000

def rawE (row l : List Int) : Int := if 268435456 < row.length + 8 * l.length then 1 else if row.length % 8 ≠ 0 then 31 else 0
def rawRow (row l : List Int) : List Int := if 268435456 < row.length + 8 * l.length then row else if row.length % 8 ≠ 0 then row else row ++ unpack l

theorem SB.safe {w : World} {u : Value} {l : List Int} (h : SB w u l) {K : Nat → Nat} (hk : ∀ k, u.ownBlock = some k → k < w.heap.size → K k = 0) : ∀ wr K1, Fr K K1 w wr → SB wr u l :=
  fun wr K1 hF => h.move fun a x ha hb => by
    have hl := World.block_lt_of_cell? w a ha
    rw [World.cell?_of_block (w := w) (hF.block a.block hl (hk _ hb hl))]
    exact ha

theorem SB.len {w : World} {u : Value} {l : List Int} (h : SB w u l) : ∃ a c, u = .slice a l.length c := by
  obtain ⟨a, c, h, _⟩ := h
  exact ⟨a, c, h⟩

theorem wraw_any {w : World} {K : Nat → Nat} {g : Nat} {row : List Int} (h : Wp w K g row) (u : Value) (l : List Int) (hB : Byt l) (HS : ∀ wr K1, Fr K K1 w wr → SB wr u l) :
    Calls Tryz.prog 54 #[.pointer (some ⟨g, 0, none⟩), u] w fun e w' => e = .returned (.int .i64 (rawE row l)) ∧ ∃ K', Wp w' K' g (rawRow row l) ∧ Fr K K' w w' := by
  have H := hide h
  have ht := h.top
  have HSB := hide HS
  have HBy := hide hB
  obtain ⟨ua, uc, rfl⟩ := (HS w K (Fr.refl _ _)).len
  clear h HS hB
  by_cases hr : 268435456 < row.length + 8 * l.length
  · have HE : Hid (rawE row l = 1 ∧ rawRow row l = row) := ⟨if_pos hr, if_pos hr⟩
    have hlt : (268435456 - (row.length : Int)) / 8 < l.length := by omega
    clear hr
    go_enter Tryz.func54, Tryz.ntmps54
    go_wp2_with fail
    refine (room_any H.out).mono ?_
    rintro e w1 ⟨rfl, q, rfl⟩
    go_wp2
    go_ret
    rw [HE.out.1, HE.out.2]
    exact ⟨rfl, K, H.out.drewN _, (Fr.refl _ _).drewN _⟩
  · have hlt : ¬ (268435456 - (row.length : Int)) / 8 < l.length := by omega
    obtain ⟨v, d, r, k, a1, a2, a3⟩ := H.out
    have hl := a2.len
    have hk8 := a2.h8
    have HA1 := hide a1
    have HA2 := hide a2
    have c2 : ∀ q, (w.drewN q).cell? ⟨g, 2, none⟩ = some (.int .i64 k) := fun q => a1.cell 2
    clear a1 a2
    by_cases h8 : row.length % 8 ≠ 0
    · have HE : Hid (rawE row l = 31 ∧ rawRow row l = row) := by
        unfold rawE rawRow
        rw [if_neg hr, if_neg hr, if_pos h8, if_pos h8]
        exact ⟨rfl, rfl⟩
      have hk0 : (0 : Int) < k := by omega
      clear hr h8
      go_enter Tryz.func54, Tryz.ntmps54
      go_wp2_with fail
      refine (room_any H.out).mono ?_
      rintro e w1 ⟨rfl, q, rfl⟩
      go_wp2
      go_ret
      rw [HE.out.1, HE.out.2]
      exact ⟨rfl, K, H.out.drewN _, (Fr.refl _ _).drewN _⟩
    · have HE : Hid (rawE row l = 0 ∧ rawRow row l = row ++ unpack l) := by
        unfold rawE rawRow
        rw [if_neg hr, if_neg hr, if_neg h8, if_neg h8]
        exact ⟨rfl, rfl⟩
      obtain rfl : k = 0 := by omega
      have HR : Hid (row.length + 8 * l.length ≤ 268435456) := by show _ ≤ _; omega
      clear hr h8
      go_enter Tryz.func54, Tryz.ntmps54
      go_wp2_with fail
      refine (room_any H.out).mono ?_
      rintro e w1 ⟨rfl, q, rfl⟩
      go_wp2_with fail
      refine (bytes_any (HA1.out.drewN q) HA2.out _ l HBy.out (fun wr K1 v1 n1 hF _ => HSB.out wr K1 (((Fr.refl _ _).drewN q).trans hF)) HR.out).mono ?_
      rintro e w2 ⟨rfl, K', v', d', r', h', b1, b2, b3⟩
      have HF : Hid (∃ K', Wp w2 K' g (rawRow row l) ∧ Fr K K' w w2) := by
        rw [HE.out.2]
        exact ⟨K', ⟨v', d', r', h', b1, b2, by rw [List.length_append, length_unpack]; exact HR.out⟩, ((Fr.refl _ _).drewN q).trans b3⟩
      clear b1 b2 b3
      go_wp2
      go_ret
      rw [HE.out.1]
      exact ⟨rfl, HF.out⟩

def joinE (row x : List Int) : Int := if 268435456 < row.length + x.length then 1 else 0
def joinRow (row x : List Int) : List Int := if 268435456 < row.length + x.length then row else row ++ x

theorem lies_join {row x d : List Int} {r : Int} {h : Nat} (L : Lies x d r h) : row ++ unpack d ++ bts r h = row ++ x := by
  rw [L.e, List.append_assoc]

theorem wjoin_any {w : World} {K Kx : Nat → Nat} {g gx : Nat} {row x : List Int} (h : Wp w K g row) (hx : Wp w Kx gx x) (hap : ∀ k, Kx k ≠ 0 → K k = 0) :
    Calls Tryz.prog 33 #[.pointer (some ⟨g, 0, none⟩), .pointer (some ⟨gx, 0, none⟩)] w fun e w' => e = .returned (.int .i64 (joinE row x)) ∧ ∃ K', Wp w' K' g (joinRow row x) ∧ Fr K K' w w' := by
  have H := hide h
  have HX := hide hx
  have ht := h.top
  have htx := hx.top
  obtain ⟨v, d, r, n, a1, a2, a3⟩ := h
  obtain ⟨vx, dx, rx, nx, b1, b2, b3⟩ := hx
  have hlx := b2.len
  have hl := a2.len
  have hnx := b2.h8
  have HA1 := hide a1
  have HA2 := hide a2
  have HB1 := hide b1
  have HB2 := hide b2
  have c0 : ∀ q, (w.drewN q).cell? ⟨gx, 0, none⟩ = some vx := fun q => b1.cell 0
  have c1 : ∀ q, (w.drewN q).cell? ⟨gx, 1, none⟩ = some (.int .u64 rx) := fun q => b1.cell 1
  have c2 : ∀ q, (w.drewN q).cell? ⟨gx, 2, none⟩ = some (.int .i64 nx) := fun q => b1.cell 2
  have HAP := hide hap
  obtain ⟨xa, xc, hvx⟩ := b1.o.shape
  subst hvx
  clear a1 a2 b1 b2 hap
  by_cases hr : 268435456 < row.length + x.length
  · have HE : Hid (joinE row x = 1 ∧ joinRow row x = row) := ⟨if_pos hr, if_pos hr⟩
    clear c0 c1 c2
    go_enter Tryz.func33, Tryz.ntmps33
    go_wp2_with fail
    refine (wlen_any HX.out).mono ?_
    rintro e w1 ⟨rfl, q, rfl⟩
    go_wp2_with fail
    refine (room_any (H.out.drewN q)).mono ?_
    rintro e w1 ⟨rfl, q2, rfl⟩
    go_wp2
    go_ret
    rw [HE.out.1, HE.out.2]
    exact ⟨rfl, K, H.out.drewN _, (Fr.refl _ _).drewN _⟩
  · have HE : Hid (joinE row x = 0 ∧ joinRow row x = row ++ x) := ⟨if_neg hr, if_neg hr⟩
    have hr' : ¬ (268435456 - (row.length : Int) < x.length) := by omega
    have HR1 : Hid (row.length + 8 * dx.length ≤ 268435456) := by show _ ≤ _; omega
    have HR2 : Hid (row.length + x.length ≤ 268435456) := by show _ ≤ _; omega
    have hdn : dx.length ≤ 33554432 := by omega
    clear hl hlx hr
    have HSX : Hid (SB w (.slice xa dx.length xc) dx) := HB1.out.o.sb
    have HSAFE : Hid (∀ wr K1, Fr K K1 w wr → SB wr (.slice xa dx.length xc) dx) := HSX.out.safe fun k hk _ => HAP.out k (by rw [HB1.out.kv k hk]; omega)
    go_enter Tryz.func33, Tryz.ntmps33
    go_wp2_with fail
    refine (wlen_any HX.out).mono ?_
    rintro e w1 ⟨rfl, q, rfl⟩
    go_wp2_with fail
    refine (room_any (H.out.drewN q)).mono ?_
    rintro e w1 ⟨rfl, q2, rfl⟩
    go_wp2
    go_quiet (fail)
    rename_i nq _
    go_wp2_with fail
    refine (bytes_any (HA1.out.drewN _) HA2.out _ dx HB2.out.b (fun wr K1 v1 n1 hF _ => HSAFE.out wr K1 (((Fr.refl K w).drewN _).trans hF)) HR1.out).mono ?_
    rintro e w2 ⟨rfl, K', v', d', r', h', e1, e2, e3⟩
    have HE1 := hide e1
    have HE2 := hide e2
    have HE3 := hide e3
    have hld := e2.len
    rw [List.length_append, length_unpack] at hld
    have hd' : d'.length ≤ 140737488351232 := by omega
    clear e1 e2 e3 hld
    go_wp2_with fail
    refine (put_any HE1.out HE2.out rx nx HB2.out.r0 HB2.out.r1 (by omega) hd').mono ?_
    rintro e w3 ⟨rfl, K3, v3, d3, r3, h3, f1, f2, f3, _⟩
    have HF : Hid (∃ K', Wp w3 K' g (joinRow row x) ∧ Fr K K' w w3) := by
      rw [HE.out.2, ← lies_join HB2.out]
      refine ⟨K3, ⟨v3, d3, r3, h3, f1, f2, ?_⟩, (((Fr.refl _ _).drewN _).trans HE3.out).trans f3⟩
      rw [lies_join HB2.out, List.length_append]
      exact HR2.out
    clear f1 f2 f3
    go_wp2
    go_ret
    rw [HE.out.1]
    exact ⟨rfl, HF.out⟩

end Go.Proofs.YtfoglaajnlbnbaaGreatDoor

