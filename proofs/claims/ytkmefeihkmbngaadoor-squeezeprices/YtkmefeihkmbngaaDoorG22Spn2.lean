import Derived.Test.YtkmefeihkmbngaaDoorG19Sqn
import Derived.Test.YtkmefeihkmbngaaDoorG21Tbn
namespace Go.Proofs.YtkmefeihkmbngaaDoor
open Go.RowKit Go.Maps
set_option maxRecDepth 20000
set_option linter.unusedVariables false

theorem gd_lok21 {f n : List Int} {m : Nat} (hf : Bd f m) (h : Gd f n 15) : ∀ i, 0 ≤ n.getD i 0 ∧ n.getD i 0 ≤ 15 := by
  intro i
  by_cases hi : i < f.length
  · by_cases h0 : f.getD i 0 = 0
    · rw [h.zero i hi h0]; omega
    · have hb := hf i
      have := h.ok i (mem_us.2 ⟨hi, by omega⟩)
      omega
  · rw [List.getD_eq_getElem?_getD, List.getElem?_eq_none (by rw [h.len]; omega)]
    simp

def Wok (P : List Int) (n : Nat) : Prop := P.length = n ∧ ∀ i, 0 ≤ P.getD i 0 ∧ P.getD i 0 ≤ 15

theorem tr_wok {R : List Tk} (hE : ctE R = 0) : Wok (trL R) 286 ∧ Wok (trD R) 30 := by
  have hn : R.length ≤ 16777216 := by unfold ctE at hE; split at hE; cases hE; omega
  have ha : asnd R = true := by
    unfold ctE at hE
    rw [if_neg (by omega)] at hE
    split at hE
    · assumption
    · cases hE
  obtain ⟨hE, h1, h2, b1, b2⟩ := ctl_facts hn ha
  obtain ⟨t1, t2, t3, t4, t5⟩ := trl_facts hn ha
  have e2 := cnt_lmE (by omega) b2 (by omega)
  have q2 : trD R = lmt (ctD R) 15 := by unfold trD lmL; rw [if_pos hE, if_pos e2.1]; rfl
  have hs2 := cnt_sound (l := ctD R) (by omega) b2 (by omega)
  have g2 := gd_lmt hs2 (L := 15) (by omega) e2.2
  rw [← t1] at t4
  rw [← q2] at g2
  exact ⟨⟨by omega, gd_lok21 b1 t4⟩, ⟨by omega, gd_lok21 b2 g2⟩⟩

def wbn (x : Int) : Int := if x = 0 then 15 else x
def lfu (s : Nat) : Int := if s < 257 then 0 else (LF (s - 257) : Int)

def flv (x s : Nat) : Int := if 257 ≤ s ∧ LB (s - 257) < x then (LF (s - 257) : Int) else 0
def flx (x : Nat) : List Int := (List.range 286).map (flv x)
def lfs : List Int := (List.range 286).map lfu

theorem map_get (f : Nat → Int) {n i : Nat} (h : i < n) : ((List.range n).map f).getD i 0 = f i := by
  rw [List.getD_eq_getElem?_getD, List.getElem?_map, List.getElem?_range h]; rfl

theorem list_ext {a b : List Int} (hl : a.length = b.length) (h : ∀ i, i < a.length → a.getD i 0 = b.getD i 0) : a = b := by
  refine List.ext_getElem hl fun i h1 h2 => ?_
  have := h i h1
  rw [List.getD_eq_getElem?_getD, List.getD_eq_getElem?_getD, List.getElem?_eq_getElem h1, List.getElem?_eq_getElem h2] at this
  exact this

theorem lb_ge0 : ∀ i : Nat, i < 29 → 3 ≤ LB i ∧ LB i ≤ 258 := by decide

theorem flx_start : flx 3 = List.replicate 286 0 := by
  refine list_ext (by simp [flx]) fun i hi => ?_
  have hi' : i < 286 := by simpa [flx] using hi
  unfold flx
  rw [map_get _ hi']
  have e : (List.replicate 286 (0 : Int)).getD i 0 = 0 := by rw [List.getD_eq_getElem?_getD, List.getElem?_replicate]; split <;> rfl
  rw [e]
  unfold flv
  rw [if_neg]
  intro h
  have := lb_ge0 (i - 257) (by omega)
  omega

theorem flx_end : flx 259 = lfs := by
  refine list_ext (by simp [flx, lfs]) fun i hi => ?_
  have hi' : i < 286 := by simpa [flx] using hi
  unfold flx lfs
  rw [map_get _ hi', map_get _ hi']
  unfold flv lfu
  by_cases h : i < 257
  · rw [if_pos h, if_neg (by omega)]
  · have := lb_ge0 (i - 257) (by omega)
    rw [if_neg h, if_pos ⟨by omega, by omega⟩]

theorem flx_len (x : Nat) : (flx x).length = 286 := by simp [flx]
theorem lfs_len : lfs.length = 286 := by simp [lfs]

theorem getD_set {l : List Int} {i j : Nat} {x : Int} : (l.set j x).getD i 0 = if i = j ∧ j < l.length then x else l.getD i 0 := by
  rw [List.getD_eq_getElem?_getD, List.getD_eq_getElem?_getD, List.getElem?_set]
  by_cases e : j = i
  · subst e
    by_cases h : j < l.length
    · simp [h]
    · simp [h]
  · have e' : ¬ i = j := fun h => e h.symm
    simp [e, e']

theorem flx_step {x : Nat} (h3 : 3 ≤ x) : (flx x).set (257 + lsy x) (LF (lsy x) : Int) = flx (x + 1) := by
  obtain ⟨s1, s2, s3⟩ := lsy_spec h3
  refine list_ext (by simp [flx]) fun i hi => ?_
  have hi' : i < 286 := by simpa [flx] using hi
  rw [getD_set, flx_len]
  have e1 : (flx x).getD i 0 = flv x i := map_get _ hi'
  have e2 : (flx (x + 1)).getD i 0 = flv (x + 1) i := map_get _ hi'
  rw [e1, e2]
  by_cases e : i = 257 + lsy x
  · rw [if_pos ⟨e, by omega⟩]
    unfold flv
    have : i - 257 = lsy x := by omega
    rw [this, if_pos ⟨by omega, by omega⟩]
  · rw [if_neg (fun q => e q.1)]
    unfold flv
    by_cases h : 257 ≤ i
    · have hne : LB (i - 257) ≠ x := by
        intro q
        apply e
        rcases Nat.lt_trichotomy (i - 257) (lsy x) with g | g | g
        · have := lb_up (i - 257) (lsy x) (by omega) s1 g
          omega
        · omega
        · have := s3 (i - 257) g (by omega)
          omega
      by_cases g : LB (i - 257) < x
      · rw [if_pos ⟨h, g⟩, if_pos ⟨h, by omega⟩]
      · rw [if_neg (fun q => g q.2), if_neg (fun q => by omega)]
    · rw [if_neg (fun q => h q.1), if_neg (fun q => h q.1)]

def pcL (T : List Int) : List Int := (List.range 286).map fun s => wbn (T.getD s 0) + lfu s
def pcD (T : List Int) : List Int := (List.range 30).map fun s => wbn (T.getD s 0) + (DF s : Int)

theorem pcL_len (T : List Int) : (pcL T).length = 286 := by simp [pcL]
theorem pcD_len (T : List Int) : (pcD T).length = 30 := by simp [pcD]
theorem pcL_at (T : List Int) {s : Nat} (h : s < 286) : (pcL T).getD s 0 = wbn (T.getD s 0) + lfu s := map_get _ h
theorem pcD_at (T : List Int) {s : Nat} (h : s < 30) : (pcD T).getD s 0 = wbn (T.getD s 0) + (DF s : Int) := map_get _ h

def mix (P Q : List Int) (k : Nat) : List Int := P.take k ++ Q.drop k

theorem mix_len {P Q : List Int} {k : Nat} (h : P.length = Q.length) : (mix P Q k).length = Q.length := by
  unfold mix; simp; omega

theorem mix_zero (P Q : List Int) : mix P Q 0 = Q := by simp [mix]

theorem mix_all {P Q : List Int} (h : P.length = Q.length) : mix P Q Q.length = P := by
  unfold mix
  rw [List.drop_of_length_le (Nat.le_refl _), List.append_nil, List.take_of_length_le (by omega)]

theorem mix_get {P Q : List Int} {k i : Nat} (h : P.length = Q.length) (hk : k ≤ Q.length) : (mix P Q k).getD i 0 = if i < k then P.getD i 0 else Q.getD i 0 := by
  unfold mix
  rw [List.getD_eq_getElem?_getD, List.getElem?_append]
  by_cases g : i < k
  · rw [if_pos (by simp; omega), if_pos g, List.getElem?_take, if_pos g, ← List.getD_eq_getElem?_getD]
  · rw [if_neg (by simp; omega), if_neg g, List.getElem?_drop, List.getD_eq_getElem?_getD]
    congr 2
    simp
    omega

theorem mix_set {P Q : List Int} {k : Nat} (h : P.length = Q.length) (hk : k < Q.length) : (mix P Q k).set k (P.getD k 0) = mix P Q (k + 1) := by
  refine list_ext (by rw [List.length_set, mix_len h, mix_len h]) fun i hi => ?_
  rw [List.length_set, mix_len h] at hi
  rw [getD_set, mix_len h, mix_get h (by omega), mix_get h (by omega)]
  by_cases e : i = k
  · subst e; rw [if_pos ⟨rfl, hk⟩, if_pos (by omega)]
  · rw [if_neg (fun q => e q.1)]
    by_cases g : i < k
    · rw [if_pos g, if_pos (by omega)]
    · rw [if_neg g, if_neg (by omega)]

theorem wbn_bd {x : Int} (h : 0 ≤ x ∧ x ≤ 15) : 1 ≤ wbn x ∧ wbn x ≤ 15 := by unfold wbn; split <;> omega
theorem lfu_bd {s : Nat} (h : s < 286) : 0 ≤ lfu s ∧ lfu s ≤ 5 := by
  unfold lfu
  split
  · omega
  · have := lfLe (s - 257) (by omega); omega
theorem dft_bd {s : Nat} (h : s < 30) : (DF s : Int) ≤ 13 := by have := dfLe s h; omega

noncomputable def psE (R : List Tk) : Int := if ctE R = 100 then 211 else ctE R
noncomputable def psL (R : List Tk) : List Int := if ctE R = 0 then pcL (trL R) else []
noncomputable def psD (R : List Tk) : List Int := if ctE R = 0 then pcD (trD R) else []

theorem ctE_cases (R : List Tk) : ctE R = 0 ∨ ctE R = 1 ∨ ctE R = 100 := by
  unfold ctE
  split
  · exact .inr (.inl rfl)
  · split
    · exact .inl rfl
    · exact .inr (.inr rfl)

def Psa (B : Nat) (R : List Tk) (e : Ending) (w w' : World) : Prop :=
  ∃ vl vd, e = .returned (.tuple #[vl, vd, .int .i64 (psE R)]) ∧ OI w' B vl (psL R) ∧ OI w' B vd (psD R) ∧ (∀ k, vl.ownBlock = some k → vd.ownBlock ≠ some k) ∧ Below B w w'

theorem psa_no {R : List Tk} {B : Nat} {w w' : World} (hE : ctE R ≠ 0) (hb : Below B w w') : Psa B R (.returned (.tuple #[.slice none 0 0, .slice none 0 0, .int .i64 (psE R)])) w w' := by
  have h1 : psL R = [] := by unfold psL; rw [if_neg hE]
  have h2 : psD R = [] := by unfold psD; rw [if_neg hE]
  refine ⟨_, _, rfl, by rw [h1]; exact oi_nil10 _ _, by rw [h2]; exact oi_nil10 _ _, fun k hk => by simp [Value.ownBlock] at hk, hb⟩
end Go.Proofs.YtkmefeihkmbngaaDoor

