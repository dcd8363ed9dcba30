import Derived.Test.YtfoglaajnlbnbaaGreatDoorG46Ptm
import Derived.Test.YtfoglaajnlbnbaaGreatDoorG32Wbz
namespace Go.Proofs.YtfoglaajnlbnbaaGreatDoor
open Go.RowKit Go.Maps
set_option maxRecDepth 20000
set_option linter.unusedVariables false
set_option linter.unusedSimpArgs false

/-! A row of blocks, block by block. -/
noncomputable def preB (out : List Int) (a : Nat) : List (List Tk × Nat) → List Int
  | [] => []
  | (R, k) :: r => blkB k false R ((exT out R).drop out.length) a ++ preB (exT out R) (a + (blkB k false R ((exT out R).drop out.length) a).length) r

theorem row_cons10 (out : List Int) (R : List Tk) (k : Nat) (r : List (List Tk × Nat)) : rowT out ((R, k) :: r) = rowT (exT out R) r := by
  unfold rowT
  rw [List.flatMap_cons, ext_app]

theorem preB_snoc : ∀ (xs : List (List Tk × Nat)) (out : List Int) (a : Nat) (R : List Tk) (k : Nat), preB out a (xs ++ [(R, k)]) = preB out a xs ++ blkB k false R ((exT (rowT out xs) R).drop (rowT out xs).length) (a + (preB out a xs).length : Nat)
  | [], out, a, R, k => by simp [preB, rowT, exT]
  | (S, j) :: xs, out, a, R, k => by
    simp only [List.cons_append, preB]
    rw [preB_snoc xs, row_cons10, List.append_assoc, List.length_append, Nat.add_assoc]

theorem rowB_snoc : ∀ (xs : List (List Tk × Nat)) (out : List Int) (a : Nat) (R : List Tk) (k : Nat), rowB out a (xs ++ [(R, k)]) = preB out a xs ++ blkB k true R ((exT (rowT out xs) R).drop (rowT out xs).length) (a + (preB out a xs).length : Nat)
  | [], out, a, R, k => by simp [preB, rowB, rowT, exT]
  | (S, j) :: xs, out, a, R, k => by
    have e : rowB out a ((S, j) :: (xs ++ [(R, k)])) = blkB j false S ((exT out S).drop out.length) a ++ rowB (exT out S) (a + (blkB j false S ((exT out S).drop out.length) a).length) (xs ++ [(R, k)]) := by
      cases h : xs ++ [(R, k)] with
      | nil => simp at h
      | cons y ys => rfl
    rw [List.cons_append, e, rowB_snoc xs, row_cons10]
    simp only [preB]
    rw [List.append_assoc, List.length_append, Nat.add_assoc]

theorem blk_le2 {R : List Tk} {l : List Int} {a : Int} (hsd : sdE R = 0) (hb : ∀ t ∈ R, Bt t) (hl : (l.length : Int) = lsay R) (ha : 0 ≤ a) (k : Nat) (f : Bool) : ((blkB k f R l a).length : Int) ≤ 10100 + 48 * lsay R := by
  obtain ⟨d1, d2, d3, d4, d5⟩ := sd_ok hsd
  have hall := asnd_all10 d1 hb
  have hRl : (R.length : Int) ≤ lsay R := by
    have : ∀ A : List Tk, (∀ t ∈ A, Snd t) → (A.length : Int) ≤ lsay A := fun A => by
      induction A with
      | nil => intro _; simp [lsay]
      | cons t A ih =>
        intro h
        have h1 := ih (fun u hu => h u (by simp [hu]))
        have h2 := h t (by simp)
        rw [lsay_cons]
        unfold lsayT
        unfold Snd at h2
        by_cases c : t.1 = 0
        · rw [if_pos c]; simp; omega
        · rw [if_neg c] at h2; rw [if_neg c]; simp; omega
    exact this R (fun t ht => (hall t ht).1)
  obtain ⟨c0, c1, c2, c3, c4⟩ := ctl_facts (R := R) (by omega) d1
  unfold blkB
  by_cases k0 : k = 0
  · rw [if_pos k0]
    have h1 := rawB_len l a
    have h2 := stz_facts (l.length : Int) a
    cases f <;> omega
  · rw [if_neg k0]
    by_cases k1 : k = 1
    · rw [if_pos k1]
      have h1 := bod_le (fun i => ⟨(fx_get i).1, (fx_get i).2.1⟩) (fun i => ⟨(f5_get i).1, (f5_get i).2.1⟩) R hall
      simp only [List.length_append, hd3_len, wb_len]
      have h2 := (fx_get 256).2.1
      unfold ln
      omega
    · rw [if_neg k1]
      obtain ⟨e1, e2, e3, e4, e5, e6, e7⟩ := dyn_ok (R := R) (by omega) d1 hb
      have s1 := cnt_sound (l := ctL R) (by rw [c1]; omega) c3 (Nat.le_refl _)
      have s2 := cnt_sound (l := ctD R) (by rw [c2]; omega) c4 (Nat.le_refl _)
      have u1 := (cnt_lmE (l := ctL R) (by rw [c1]; omega) c3 (Nat.le_refl _)).2
      have u2 := (cnt_lmE (l := ctD R) (by rw [c2]; omega) c4 (Nat.le_refl _)).2
      have p1 : ∀ i, 0 ≤ (lmL (ctL R) 15).getD i 0 ∧ (lmL (ctL R) 15).getD i 0 ≤ 15 := fun i => by rw [e6]; exact lmt_at s1 u1 i
      have p2 : ∀ i, 0 ≤ (lmL (ctD R) 15).getD i 0 ∧ (lmL (ctD R) 15).getD i 0 ≤ 15 := fun i => by rw [e7]; exact lmt_at s2 u2 i
      have h1 := bod_le p1 p2 R hall
      have h3 := (hdrB_len (lmL (ctL R) 15) (lmL (ctD R) 15)).2
      have h2 := (p1 256).2
      simp only [List.length_append, hd3_len, wb_len]
      unfold ln
      omega

def pts (ps : List Pt) : List (List Tk × Nat) := ps.map fun p => (p.2.1, p.2.2.toNat)
def tksP (ps : List Pt) : List Tk := ps.flatMap fun p => p.2.1

theorem tksP_snoc (ps : List Pt) (p : Pt) : tksP (ps ++ [p]) = tksP ps ++ p.2.1 := by simp [tksP]
theorem ptP_snoc (ps : List Pt) (p : Pt) : pts (ps ++ [p]) = pts ps ++ [(p.2.1, p.2.2.toNat)] := by simp [pts]
theorem lsay_ap10 (R S : List Tk) : lsay (R ++ S) = lsay R + lsay S := by simp [lsay]
theorem row_pts10 (out : List Int) (ps : List Pt) : rowT out (pts ps) = exT out (tksP ps) := by
  unfold rowT pts tksP
  congr 1
  rw [List.flatMap_map]

theorem nrA_app : ∀ (R S : List Tk) (a : Int), nrA a (R ++ S) = (nrA a R && nrA (a + lsay R) S)
  | [], S, a => by simp [nrA, lsay]
  | t :: R, S, a => by
    simp only [List.cons_append, nrA]
    rw [nrA_app R, lsay_cons, Bool.and_assoc, Int.add_assoc]

structure Pok (ps : List Pt) (A : Int) : Prop where
  tot : A = lsay (tksP ps)
  le : A ≤ 1048576
  each : ∀ p ∈ ps, sdE p.2.1 = 0 ∧ (∀ t ∈ p.2.1, Bt t) ∧ 0 ≤ p.2.2 ∧ p.2.2 ≤ 2
  near : nrA 0 (tksP ps) = true

theorem Pok.nil : Pok [] 0 := ⟨rfl, by decide, (fun p hp => by cases hp), rfl⟩

theorem Pok.snd {ps : List Pt} {A : Int} (h : Pok ps A) : ∀ t ∈ tksP ps, Snd t ∧ Bt t := fun t ht => by
  unfold tksP at ht
  obtain ⟨p, hp, hq⟩ := List.mem_flatMap.1 ht
  obtain ⟨e1, e2, -⟩ := h.each p hp
  exact asnd_all10 (sd_ok e1).1 e2 t hq

theorem snd_le : ∀ R : List Tk, (∀ t ∈ R, Snd t) → (R.length : Int) ≤ lsay R
  | [], _ => by simp [lsay]
  | t :: A, h => by
    have h1 := snd_le A (fun u hu => h u (by simp [hu]))
    have h2 := h t (by simp)
    rw [lsay_cons]
    unfold lsayT
    unfold Snd at h2
    by_cases c : t.1 = 0
    · rw [if_pos c]; simp; omega
    · rw [if_neg c] at h2; rw [if_neg c]; simp; omega

theorem Pok.pos {ps : List Pt} {A : Int} (h : Pok ps A) : 0 ≤ A ∧ ((tksP ps).length : Int) ≤ A := by
  have := snd_le (tksP ps) (fun t ht => (h.snd t ht).1)
  rw [← h.tot] at this
  omega

theorem Pok.snoc {ps : List Pt} {A : Int} (h : Pok ps A) {p : Pt} (h1 : sdE p.2.1 = 0) (h2 : ∀ t ∈ p.2.1, Bt t) (h3 : 0 ≤ p.2.2 ∧ p.2.2 ≤ 2) (h4 : nrA A p.2.1 = true) (h5 : A + lsay p.2.1 ≤ 1048576) : Pok (ps ++ [p]) (A + lsay p.2.1) := by
  refine ⟨by rw [tksP_snoc, lsay_ap10, ← h.tot], h5, fun q hq => ?_, by rw [tksP_snoc, nrA_app, h.near, Int.zero_add, ← h.tot, h4]; rfl⟩
  rcases List.mem_append.1 hq with hq | hq
  · exact h.each q hq
  · simp at hq; subst hq; exact ⟨h1, h2, h3.1, h3.2⟩

theorem Pok.text {ps : List Pt} {A : Int} (h : Pok ps A) {lim : Int} (hl : A ≤ lim) : exE lim [] (tksP ps) = 0 ∧ ((exT [] (tksP ps)).length : Int) = A := by
  have := ex_ok (lim := lim) (tksP ps) [] (fun t ht => (h.snd t ht).1) (by simpa using h.near) (by rw [← h.tot]; simpa using hl)
  refine ⟨this.1, ?_⟩
  rw [this.2, ← h.tot]
  simp

theorem Pok.row : ∀ {ps qs : List Pt} {A B : Int} (h : Pok ps A) (h' : Pok (ps ++ qs) B) (L : Nat), B ≤ L → rowOk L A.toNat (pts qs) := fun {ps qs} => by
  induction qs generalizing ps with
  | nil => intros; trivial
  | cons q qs ih =>
    intro A B h h' L hL
    have e : ps ++ q :: qs = (ps ++ [q]) ++ qs := by simp
    obtain ⟨e1, e2, e3, e4⟩ := h'.each q (by simp)
    have hn := h'.near
    have ht := h'.tot
    rw [e] at hn ht
    have et : tksP ((ps ++ [q]) ++ qs) = tksP ps ++ q.2.1 ++ tksP qs := by simp [tksP]
    rw [et, nrA_app, nrA_app, Int.zero_add, ← h.tot] at hn
    simp only [Bool.and_eq_true] at hn
    rw [et, lsay_ap10, lsay_ap10, ← h.tot] at ht
    have hq0 : 0 ≤ lsay (tksP qs) := by
      have := snd_le (tksP qs) (fun t ht => (h'.snd t (by
        rw [e, et]
        exact List.mem_append_right _ ht)).1)
      omega
    have hd := sd_ok e1
    have hs := h.snoc (p := q) e1 e2 ⟨e3, e4⟩ hn.1.2 (by have := h'.le; omega)
    have hp := h.pos
    refine ⟨e1, e2, by omega, by rw [Int.toNat_of_nonneg hp.1]; exact hn.1.2, by omega, ?_⟩
    have := ih hs (by rw [← e]; exact h') L hL
    rwa [show (A + lsay q.2.1).toNat = A.toNat + (lsay q.2.1).toNat by omega] at this

end Go.Proofs.YtfoglaajnlbnbaaGreatDoor

