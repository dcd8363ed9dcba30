import Derived.Test.YtkmefeihkmbngaaDoorG18Trw
import Derived.Test.YtkmefeihkmbngaaDoorG20Lsd
namespace Go.Proofs.YtkmefeihkmbngaaDoor
set_option maxRecDepth 20000
set_option linter.unusedVariables false

theorem cnt_sound {l : List Int} {m : Nat} (hl : l.length ≤ 288) (h : Bd l m) (hm : m ≤ 16777217) : Sound l := ⟨hl, fun i hi => by have := h i; omega⟩

theorem cnt_lmE {l : List Int} {m : Nat} (hl : l.length ≤ 288) (h : Bd l m) (hm : m ≤ 16777217) : lmE l 15 = 0 ∧ (us6 l).length ≤ 2 ^ 15 := by
  have h1 : (us6 l).length ≤ 2 ^ 15 := by have := usk_len l l.length; show (usk l l.length).length ≤ _; omega
  refine ⟨?_, h1⟩
  unfold lmE
  rw [if_neg (by omega)]
  have hb : bnb l 4294967296 = true := by
    have := (cnt_sound hl h hm).ok
    exact bnb_iff.2 this
  rw [hb, if_neg (by simp), if_neg (by show ¬ 2 ^ 15 < (us6 l).length; omega)]

theorem ctl_facts {R : List Tk} (hn : R.length ≤ 16777216) (ha : asnd R = true) : ctE R = 0 ∧ (ctL R).length = 286 ∧ (ctD R).length = 30 ∧ Bd (ctL R) 16777217 ∧ Bd (ctD R) 16777217 := by
  have hE : ctE R = 0 := by unfold ctE; rw [if_neg (by omega), if_pos ha]
  have hL : ctL R = (cls (List.replicate 286 0) R).set 256 1 := by unfold ctL; rw [if_pos hE]
  have hD : ctD R = cdt (List.replicate 30 0) R := by unfold ctD; rw [if_pos hE]
  have b1 := bd_cls R (List.replicate 286 0) 0 (bd_zeros 286)
  have b2 := bd_cdt R (List.replicate 30 0) 0 (bd_zeros 30)
  refine ⟨hE, by rw [hL]; simp [cls_len], by rw [hD]; simp [cdt_len], fun i => ?_, bd_more (by rw [hD]; exact b2) (by omega)⟩
  rw [hL]
  by_cases e : i = 256
  · subst e
    have : ((cls (List.replicate 286 0) R).set 256 1).getD 256 0 = 1 := by rw [List.getD_eq_getElem?_getD, List.getElem?_set_self (by rw [cls_len]; simp)]; rfl
    rw [this]; omega
  · have : ((cls (List.replicate 286 0) R).set 256 1).getD i 0 = (cls (List.replicate 286 0) R).getD i 0 := by
      rw [List.getD_eq_getElem?_getD, List.getElem?_set_ne (fun q => e q.symm), ← List.getD_eq_getElem?_getD]
    rw [this]
    have := b1 i
    omega

theorem trl_facts {R : List Tk} (hn : R.length ≤ 16777216) (ha : asnd R = true) : trL R = lmt (ctL R) 15 ∧ (trL R).length = 286 ∧ (trD R).length = 30 ∧ Gd (ctL R) (lmt (ctL R) 15) 15 ∧ Sound (ctL R) := by
  obtain ⟨hE, h1, h2, b1, b2⟩ := ctl_facts hn ha
  have e1 := cnt_lmE (by omega) b1 (by omega)
  have e2 := cnt_lmE (by omega) b2 (by omega)
  have q1 : trL R = lmt (ctL R) 15 := by unfold trL lmL; rw [if_pos hE, if_pos e1.1]; rfl
  have q2 : trD R = lmt (ctD R) 15 := by unfold trD lmL; rw [if_pos hE, if_pos e2.1]; rfl
  have hs := cnt_sound (l := ctL R) (by omega) b1 (by omega)
  exact ⟨q1, by rw [q1, lmt_len, h1], by rw [q2, lmt_len, h2], gd_lmt hs (by omega) e1.2, hs⟩

end Go.Proofs.YtkmefeihkmbngaaDoor

