import Derived.Test.YtpmgnpfpnkmmbaaGreatDoorG31Rot
import Derived.Test.YtpmgnpfpnkmmbaaGreatDoorG38Lmw
import Derived.Test.YtpmgnpfpnkmmbaaGreatDoorG04Wpn
import Derived.Test.YtpmgnpfpnkmmbaaGreatDoorG11Rw4
namespace Go.Proofs.YtpmgnpfpnkmmbaaGreatDoor
open Go.RowKit Go.Maps
set_option maxRecDepth 20000
set_option linter.unusedVariables false

theorem pow_split {L a : Nat} (hL : L ≤ 60) (h : a ≤ L) : 2 ^ (60 - a) = 2 ^ (60 - L) * 2 ^ (L - a) := by
  rw [← Nat.pow_add]
  congr 1
  omega

theorem kr_limit {len : Nat → Nat} {l : List Nat} {L : Nat} (hL : L ≤ 60) (h : ∀ s ∈ l, len s ≤ L) : kr len l = 2 ^ (60 - L) * (l.map fun s => 2 ^ (L - len s)).sum := by
  induction l with
  | nil => simp [kr]
  | cons a r ih =>
    have ih' := ih fun s hs => h s (List.mem_cons_of_mem _ hs)
    unfold kr at ih' ⊢
    simp only [List.map_cons, List.sum_cons]
    rw [ih', pow_split hL (h a (by simp)), Nat.mul_add]

theorem kr_perm {len : Nat → Nat} {l l' : List Nat} (h : l.Perm l') : kr len l = kr len l' := perm_sum _ h
theorem fl_perm {f len : Nat → Nat} {l l' : List Nat} (h : l.Perm l') : fl f len l = fl f len l' := perm_sum _ h

theorem lm_facts {f : List Int} {L : Nat} (hs : Sound f) (hL : 1 ≤ L ∧ L ≤ 15) (hu : (us6 f).length ≤ 2 ^ L) (h2 : 2 ≤ (us6 f).length) : kr (lm f L) (us6 f) = 2 ^ 60 ∧ (∀ s ∈ us6 f, lm f L s ≤ L) ∧ ∀ o, (∀ s ∈ us6 f, o s ≤ L) → kr o (us6 f) ≤ 2 ^ 60 → fl (fq f) (lm f L) (us6 f) ≤ fl (fq f) o (us6 f) := by
  have hp := (srl_srt f).perm
  have key := limited_good (f := fq f) (len := lm f L) (us6 := srl f) L hL.1 (by rw [srl_len]; omega) (lws_rise hs.nn) (by rw [srl_len]; exact hu) (fun i hi => by
    have := lm_at (l := f) (L := L) h2 hi
    rw [List.getD_eq_getElem?_getD, List.getElem?_eq_getElem hi, Option.getD_some, this]
    rw [srl_len, show 2 * ((us6 f).length - 1) = 2 * (us6 f).length - 2 by omega]
    rfl)
  obtain ⟨a, b, c⟩ := key
  have hle : ∀ s ∈ us6 f, lm f L s ≤ L := fun s h => b s (srl_mem.2 h)
  have hsum : ∀ g : Nat → Nat, ((srl f).map g).sum = ((us6 f).map g).sum := fun g => perm_sum g hp
  have e60 : 2 ^ (60 - L) * 2 ^ L = 2 ^ 60 := by rw [← Nat.pow_add]; congr 1; omega
  refine ⟨?_, hle, fun o ho hk => ?_⟩
  · rw [kr_limit (by omega) hle, ← hsum, a]
    exact e60
  · rw [← fl_perm hp, ← fl_perm hp]
    refine c o (fun s h => ho s (srl_mem.1 h)) ?_
    rw [kr_limit (by omega) ho, ← e60] at hk
    rw [hsum]
    exact Nat.le_of_mul_le_mul_left hk (Nat.two_pow_pos _)

theorem lmt_get {f : List Int} {L s : Nat} (h : s < f.length) : (lmt f L).getD s 0 = (lm f L s : Int) := by
  unfold lmt
  rw [List.getD_eq_getElem?_getD, List.getElem?_map, List.getElem?_range h]
  rfl

theorem nn_lmt {f : List Int} {L s : Nat} (h : s ∈ us6 f) : nn (lmt f L) s = lm f L s := by
  unfold nn
  rw [lmt_get (mem_us.1 h).1]
  rfl

theorem lm_one {f : List Int} {L s : Nat} (h : (us6 f).length = 1) (hm : s ∈ us6 f) : lm f L s = 1 := by
  unfold lm
  rw [if_pos h, if_pos hm]

theorem gd_lmt {f : List Int} {L : Nat} (hs : Sound f) (hL : 1 ≤ L ∧ L ≤ 15) (hu : (us6 f).length ≤ 2 ^ L) : Gd f (lmt f L) L := by
  refine ⟨lmt_len f L, fun s h h0 => ?_, fun s hm => ?_, fun h s hm => by rw [lmt_get (mem_us.1 hm).1, lm_one h hm]; rfl, fun h2 => ?_⟩
  · rw [lmt_get h, lm_out (fun hm => by have := (mem_us.1 hm).2; omega)]; rfl
  · have hm' : s ∈ us6 f := hm
    have hpos := List.length_pos_of_mem hm'
    rw [lmt_get (mem_us.1 hm').1]
    by_cases h1 : (us6 f).length = 1
    · rw [lm_one h1 hm']; omega
    · obtain ⟨a, b, _⟩ := lm_facts hs hL hu (by omega)
      have h3 := kr_one a (by omega) hm'
      have h4 := b s hm'
      omega
  · rw [kr_congr (fun s h => nn_lmt h)]
    exact (lm_facts hs hL hu h2).1

/-- Nothing within Kraft's rule and the limit costs less. -/
theorem lm_best {f o : List Int} {L : Nat} (hs : Sound f) (hL : 1 ≤ L ∧ L ≤ 15) (hu : (us6 f).length ≤ 2 ^ L) (ho : LenOk f o L f.length) (hk : kr (nn o) (us6 f) ≤ 2 ^ 60) : fl (fq f) (nn (lmt f L)) (us6 f) ≤ fl (fq f) (nn o) (us6 f) := by
  rw [fl_congr (fun s h => nn_lmt h)]
  by_cases h2 : 2 ≤ (us6 f).length
  · exact (lm_facts hs hL hu h2).2.2 (nn o) (fun s h => by have := ho s h; unfold nn; omega) hk
  · refine sum_map_le fun s h => ?_
    have hpos := List.length_pos_of_mem h
    have e : lm f L s = 1 := lm_one (by omega) h
    have := ho s h
    show fq f s * lm f L s ≤ _
    rw [e]
    exact Nat.mul_le_mul_left _ (by unfold nn; omega)

theorem Sound.lmE {f : List Int} {L : Nat} (hs : Sound f) (hL : 1 ≤ L ∧ L ≤ 15) : lmE f L = (if 2 ^ L < (us6 f).length then 60 else 0) ∧ lmL f L = (if 2 ^ L < (us6 f).length then [] else lmt f L) := by
  have e : Go.Proofs.YtpmgnpfpnkmmbaaGreatDoor.lmE f L = (if 2 ^ L < (us6 f).length then 60 else 0) := by
    unfold Go.Proofs.YtpmgnpfpnkmmbaaGreatDoor.lmE
    rw [if_neg (by have := hs.len; omega), if_neg (by rw [bnb_iff.2 hs.ok]; decide), Int.toNat_natCast]
  refine ⟨e, ?_⟩
  unfold Go.Proofs.YtpmgnpfpnkmmbaaGreatDoor.lmL
  rw [e]
  by_cases c : 2 ^ L < (us6 f).length
  · rw [if_pos c, if_pos c]; rfl
  · rw [if_neg c, if_neg c, Int.toNat_natCast]; rfl

theorem OI.blk {w : World} {base a n c} {l : List Int} (h : OI w base (.slice a n c) l) : ∀ k, (Value.slice a n c).ownBlock = some k → k < w.heap.size := fun k hk => (h.lt k hk).2

end Go.Proofs.YtpmgnpfpnkmmbaaGreatDoor

namespace Go.Proofs.YtpmgnpfpnkmmbaaGreatDoor
open Go.RowKit Go.Maps
set_option maxRecDepth 20000
set_option linter.unusedVariables false

/-- What Make answers. -/
def mkL (l : List Int) : List Int := trm l 257
def mkD (d : List Int) : List Int := trm d 1
def mkE (l d : List Int) : Int := if 286 < l.length ∨ 30 < d.length ∨ wthb l = false ∨ wthb d = false then 1 else hck (mkL l) (mkD d)
def mkR (l d : List Int) : List Rn := rns (mkL l ++ mkD d)
def mkC (l d : List Int) : List Int := lmt (usg (mkR l d)) 7
def mkZ (l d : List Int) : Int := hsz (mkC l d) (mkR l d)

theorem usg_sound {R : List Rn} (h : R.length ≤ 1048576) : Sound (usg R) := by
  refine ⟨by rw [usg_len]; omega, fun i hi => ?_⟩
  rw [usg_len] at hi
  have := usg_le R i hi
  omega

theorem usg_us (R : List Rn) : (us6 (usg R)).length ≤ 2 ^ 7 := by
  have := usk_len (usg R) (usg R).length
  rw [usg_len] at this
  show (usk (usg R) (usg R).length).length ≤ 128
  rw [usg_len]
  omega

theorem usg_lm {R : List Rn} (h : R.length ≤ 1048576) : lmE (usg R) 7 = 0 ∧ lmL (usg R) 7 = lmt (usg R) 7 := by
  have hb : bnb (usg R) 4294967296 = true := bnb_iff.2 (usg_sound h).ok
  have h0 : lmE (usg R) 7 = 0 := by
    unfold lmE
    rw [if_neg (by rw [usg_len]; omega), if_neg (by rw [hb]; decide), if_neg (by have := usg_us R; show ¬ 2 ^ 7 < _; omega)]
  refine ⟨h0, ?_⟩
  unfold lmL
  rw [if_pos h0]
  rfl

theorem lmt7 {R : List Rn} (h : R.length ≤ 1048576) : (lmt (usg R) 7).length = 19 ∧ ∀ s, 0 ≤ (lmt (usg R) 7).getD s 0 ∧ (lmt (usg R) 7).getD s 0 ≤ 7 := by
  have g := gd_lmt (usg_sound h) (L := 7) (by omega) (usg_us R)
  have hl : (lmt (usg R) 7).length = 19 := by rw [lmt_len, usg_len]
  refine ⟨hl, fun s => ?_⟩
  by_cases hs : s < 19
  · by_cases z : (usg R).getD s 0 = 0
    · rw [g.zero s (by rw [usg_len]; exact hs) z]; omega
    · have := usg_le R s hs
      have := g.ok s (mem_us.2 ⟨by rw [usg_len]; exact hs, by omega⟩)
      omega
  · rw [show (lmt (usg R) 7).getD s 0 = 0 by rw [List.getD_eq_getElem?_getD, List.getElem?_eq_none (by omega)]; rfl]; omega

theorem trm_lens {l : List Int} {f : Nat} (hl : l.length ≤ 286) (hf : f ≤ 257) : f ≤ (trm l f).length ∧ (trm l f).length ≤ max l.length f := by
  rw [trm_len]
  have := tln_le l f
  omega

theorem put_below {w w0 : World} {g B : Nat} {a' b' c' d' e' : Value} (h : Below B w0 w) (hB : B ≤ g) : Below B w0 (((((w.setCell ⟨g, 0, none⟩ a').setCell ⟨g, 1, none⟩ b').setCell ⟨g, 2, none⟩ c').setCell ⟨g, 3, none⟩ d').setCell ⟨g, 4, none⟩ e') :=
  ((((h.setCell (p := ⟨g, 0, none⟩) hB _).setCell (p := ⟨g, 1, none⟩) hB _).setCell (p := ⟨g, 2, none⟩) hB _).setCell (p := ⟨g, 3, none⟩) hB _).setCell (p := ⟨g, 4, none⟩) hB _

/-- The header that Make answers, in memory. -/
structure Mkd (w : World) (B : Nat) (vL vD vC vR : Value) (L D C : List Int) (R : List Rn) : Prop where
  l : OI w B vL L
  d : OI w B vD D
  c : OI w B vC C
  r : OR w B vR R

theorem Mkd.below {w w' : World} {B : Nat} {vL vD vC vR : Value} {L D C : List Int} {R : List Rn} (h : Mkd w B vL vD vC vR L D C R) (hb : Below w.heap.size w w') : Mkd w' B vL vD vC vR L D C R :=
  ⟨h.l.below hb (Nat.le_refl _), h.d.below hb (Nat.le_refl _), h.c.below hb (Nat.le_refl _), h.r.below hb (Nat.le_refl _)⟩
end Go.Proofs.YtpmgnpfpnkmmbaaGreatDoor

namespace Go.Proofs.YtpmgnpfpnkmmbaaGreatDoor
open Go.RowKit Go.Maps
set_option maxRecDepth 20000
set_option linter.unusedVariables false

end Go.Proofs.YtpmgnpfpnkmmbaaGreatDoor

namespace Go.Proofs.YtpmgnpfpnkmmbaaGreatDoor
open Go.RowKit Go.Maps
set_option maxRecDepth 20000
set_option linter.unusedVariables false

theorem run1_doc {l : List Int} {k m : Nat} {V P : Int} (hk : k < l.length) (hV : V = l.getD k 0) (hm : m = eqn V (l.drop k)) (hP : 0 < k → P = l.getD (k - 1) 0) :
    (V = 0 → 11 ≤ m → run1 l k = (18, ((min m 138 : Nat) : Int))) ∧ (V = 0 → m < 11 → 3 ≤ m → run1 l k = (17, (m : Int))) ∧ (V = 0 → m < 3 → run1 l k = (V, 1)) ∧
    (V ≠ 0 → 0 < k → P = V → 3 ≤ m → run1 l k = (16, ((min m 6 : Nat) : Int))) ∧ (V ≠ 0 → ¬ (0 < k ∧ P = V ∧ 3 ≤ m) → run1 l k = (V, 1)) := by
  unfold run1
  rw [← hV, ← hm]
  refine ⟨fun h1 h2 => ?_, fun h1 h2 h3 => ?_, fun h1 h2 => ?_, fun h1 h2 h3 h4 => ?_, fun h1 h2 => ?_⟩
  · subst h1
    rw [← hm, if_pos ⟨rfl, h2⟩]
  · subst h1
    rw [← hm, if_neg (by omega), if_pos ⟨rfl, h3⟩]
  · subst h1
    rw [← hm, if_neg (by omega), if_neg (by omega), if_neg (by omega)]
  · rw [if_neg (fun q => h1 q.1), if_neg (fun q => h1 q.1), if_pos ⟨h1, h2, by rw [← hP h2]; exact h3, h4⟩]
  · rw [if_neg (fun q => h1 q.1), if_neg (fun q => h1 q.1), if_neg (fun q => h2 ⟨q.2.1, by rw [hP q.2.1]; exact q.2.2.1, q.2.2.2⟩)]

end Go.Proofs.YtpmgnpfpnkmmbaaGreatDoor

