import Derived.Test.YtfoglaajnlbnbaaGreatDoorG17Xpk
import Derived.Test.YtfoglaajnlbnbaaGreatDoorG15Rg6
import Derived.Test.YtfoglaajnlbnbaaGreatDoorG16Nde
import Derived.Test.YtfoglaajnlbnbaaGreatDoorG05Pks
namespace Go.Proofs.YtfoglaajnlbnbaaGreatDoor
open Go.RowKit Go.Maps
set_option maxRecDepth 20000
set_option linter.unusedVariables false
set_option linter.unusedSimpArgs false

end Go.Proofs.YtfoglaajnlbnbaaGreatDoor

namespace Go.Proofs.YtfoglaajnlbnbaaGreatDoor
open Go.RowKit Go.Maps
set_option maxRecDepth 20000
set_option linter.unusedVariables false
set_option linter.unusedSimpArgs false

end Go.Proofs.YtfoglaajnlbnbaaGreatDoor

namespace Go.Proofs.YtfoglaajnlbnbaaGreatDoor
open Go.RowKit Go.Maps
set_option maxRecDepth 20000
set_option linter.unusedVariables false
set_option linter.unusedSimpArgs false

end Go.Proofs.YtfoglaajnlbnbaaGreatDoor

namespace Go.Proofs.YtfoglaajnlbnbaaGreatDoor
open Go.RowKit Go.Maps
set_option maxRecDepth 20000
set_option linter.unusedVariables false
set_option linter.unusedSimpArgs false

end Go.Proofs.YtfoglaajnlbnbaaGreatDoor

namespace Go.Proofs.YtfoglaajnlbnbaaGreatDoor
open Go.RowKit Go.Maps
set_option maxRecDepth 20000
set_option linter.unusedVariables false

theorem otrees_any (al ad : Option Addr) (nl cl nd cd : Nat) (L D : List Int) (w : World) (h1 : SI w (.slice al nl cl) L) (h2 : SI w (.slice ad nd cd) D) (k1 : ∀ k, (Value.slice al nl cl).ownBlock = some k → k < w.heap.size) (k2 : ∀ k, (Value.slice ad nd cd).ownBlock = some k → k < w.heap.size) :
    Calls Tryz.prog 61 #[.agg #[.slice al nl cl, .slice ad nd cd]] w fun e w' => ∃ a1 c1 a2 c2, e = .returned (.agg #[.slice a1 (lmL L 15).length c1, .slice a2 (lmL D 15).length c2]) ∧ OI w' w.heap.size (.slice a1 (lmL L 15).length c1) (lmL L 15) ∧ OI w' w.heap.size (.slice a2 (lmL D 15).length c2) (lmL D 15) ∧
      (∀ k, (Value.slice a1 (lmL L 15).length c1).ownBlock = some k → (Value.slice a2 (lmL D 15).length c2).ownBlock ≠ some k) ∧ Below w.heap.size w w' := by
  obtain ⟨wb, hwb⟩ : ∃ wb, w.alloc (.cells #[.slice al nl cl, .slice ad nd cd] 67) = wb := ⟨_, rfl⟩
  obtain ⟨wr, hwr⟩ : ∃ wr, wb.alloc (.cells #[.slice none 0 0, .slice none 0 0] 67) = wr := ⟨_, rfl⟩
  have HB1 : Hid (Below w.heap.size w wb) := by rw [← hwb]; exact (Below.refl _ _).alloc (Nat.le_refl _) _
  have HB2 : Hid (Below w.heap.size w wr) := by rw [← hwr]; exact HB1.out.alloc HB1.out.size _
  have sb : wb.heap.size = w.heap.size + 1 := by rw [← hwb]; simp
  have sr : wr.heap.size = w.heap.size + 1 + 1 := by rw [← hwr]; simp [sb]
  have n1 : wr.heap[w.heap.size]? = some (.cells #[.slice al nl cl, .slice ad nd cd] 67 (0, 0)) := by rw [← hwr, alloc_at, if_neg (by omega), ← hwb, alloc_at, if_pos rfl]
  have n2 : wr.heap[w.heap.size + 1]? = some (.cells #[.slice none 0 0, .slice none 0 0] 67 (0, 0)) := by rw [← hwr, alloc_at, if_pos sb.symm]
  have c0 : wr.cell? ⟨w.heap.size, 0, none⟩ = some (.slice al nl cl) := by unfold World.cell?; rw [n1]; rfl
  have c1 : wr.cell? ⟨w.heap.size, 1, none⟩ = some (.slice ad nd cd) := by unfold World.cell?; rw [n1]; rfl
  have HL1 := hide (limited_any _ L 15 wr (h1.below HB2.out) (fun k hk => by have := k1 k hk; omega) (by decide))
  have HL2 : Hid (∀ w2, Below wr.heap.size wr w2 → Calls Tryz.prog 95 #[.slice ad nd cd, .int .i64 15] w2 fun e w' => ∃ a c, e = .returned (.tuple #[.slice a (lmL D 15).length c, .int .i64 (lmE D 15)]) ∧ OI w' w2.heap.size (.slice a (lmL D 15).length c) (lmL D 15) ∧ Below w2.heap.size w2 w') :=
    fun w2 b2 => limited_any _ D 15 w2 ((h2.below HB2.out).below b2) (fun k hk => by have := k2 k hk; have := b2.size; omega) (by decide)
  have HN1 := hide n1
  have HN2 := hide n2
  have HSR := hide sr
  obtain ⟨r, hr⟩ : ∃ r, w.heap.size + 1 = r := ⟨_, rfl⟩
  have HRL : Hid (r < wr.heap.size) := by show _ < _; omega
  rw [hr] at HN2 sb
  clear h1 h2 k1 k2 n1 n2 sr
  go_enter Tryz.func61, Tryz.ntmps61
  go_wp2_with fail
  refine HL1.out.mono ?_
  rintro e w3 ⟨a1, c1', rfl, o3, b3⟩
  have z1 : w3.cell? ⟨w.heap.size, 1, none⟩ = some (.slice ad nd cd) := (b3.cell (World.block_lt_of_cell? _ _ c1)).trans c1
  have HC2 := hide (HL2.out w3 b3)
  have HO3 := hide o3
  have HB3 := hide (HB2.out.trans (b3.mono HB2.out.size))
  have HN3 := hide ((b3.block r HRL.out).trans HN2.out)
  have HS3 := hide b3.size
  clear HL1 HL2 c0 c1 o3 b3 HN1 HN2
  go_wp2_with fail
  refine HC2.out.mono ?_
  rintro e w4 ⟨a2, c2', rfl, o4, b4⟩
  have HB4 := hide (HB3.out.trans (b4.mono HB3.out.size))
  have HN4 := hide ((b4.block r (lt_of_block HN3.out)).trans HN3.out)
  have HO4 := hide o4
  have HP4 := hide (HO3.out.move fun k hk => b4.block k (HO3.out.lt k hk).2)
  have hap : ∀ k, (Value.slice a1 (lmL L 15).length c1').ownBlock = some k → k ≠ r ∧ w.heap.size ≤ k ∧ k < w3.heap.size := fun k hk => by
    have := HO3.out.lt k hk
    have := HSR.out
    omega
  have hap2 : ∀ k, (Value.slice a2 (lmL D 15).length c2').ownBlock = some k → k ≠ r ∧ w.heap.size ≤ k ∧ w3.heap.size ≤ k := fun k hk => by
    have := HO4.out.lt k hk
    have := HSR.out
    have := HS3.out
    omega
  have HA1 := hide hap
  have HA2 := hide hap2
  have r0 : w4.cell? ⟨r, 0, none⟩ = some (.slice none 0 0) := by unfold World.cell?; rw [HN4.out]; rfl
  have r1 : w4.cell? ⟨r, 1, none⟩ = some (.slice none 0 0) := by unfold World.cell?; rw [HN4.out]; rfl
  have r2 : w4.frozen? ⟨r, 0, none⟩ = false := frozen_of_row _ _ _ _ _ HN4.out
  have r3 : w4.frozen? ⟨r, 1, none⟩ = false := frozen_of_row _ _ _ _ _ HN4.out
  clear z1 HC2 o4 b4 hap hap2 HN3 HO3 HS3
  obtain ⟨n1, HM1⟩ : ∃ n, Hid (n = (lmL L 15).length) := ⟨_, rfl⟩
  obtain ⟨n2, HM2⟩ : ∃ n, Hid (n = (lmL D 15).length) := ⟨_, rfl⟩
  rw [← HM1.out] at HP4 HA1 ⊢
  rw [← HM2.out] at HO4 HA2 ⊢
  obtain ⟨wf, hwf⟩ : ∃ wf, (w4.setCell ⟨r, 0, none⟩ (.slice a1 n1 c1')).setCell ⟨r, 1, none⟩ (.slice a2 n2 c2') = wf := ⟨_, rfl⟩
  have hoth : ∀ k, k ≠ r → wf.heap[k]? = w4.heap[k]? := fun k hk => by rw [← hwf, setCell_others _ _ _ _ _ hk, setCell_others _ _ _ _ _ hk]
  have HBF : Hid (Below w.heap.size w wf) := by rw [← hwf]; exact (HB4.out.setCell (p := ⟨r, 0, none⟩) (by show _ ≤ r; omega) _).setCell (p := ⟨r, 1, none⟩) (by show _ ≤ r; omega) _
  have HLF : Hid (OI wf w.heap.size (.slice a1 n1 c1') (lmL L 15)) := (HP4.out.base (by have := HSR.out; omega)).move fun k hk => hoth k (HA1.out k hk).1
  have HDF : Hid (OI wf w.heap.size (.slice a2 n2 c2') (lmL D 15)) := (HO4.out.base (by have := HB3.out.size; omega)).move fun k hk => hoth k (HA2.out k hk).1
  have hfb : wf.heap[r]? = some (.cells #[.slice a1 n1 c1', .slice a2 n2 c2'] 67 (0, 0)) := by
    have h1 := heap_setCell_same w4 r 0 _ _ (.slice a1 n1 c1') HN4.out
    have h2 := heap_setCell_same _ r 1 _ _ (.slice a2 n2 c2') h1
    rw [hwf] at h2
    simpa using h2
  have f0 : wf.cell? ⟨r, 0, none⟩ = some (.slice a1 n1 c1') := by unfold World.cell?; rw [hfb]; rfl
  have f1 : wf.cell? ⟨r, 1, none⟩ = some (.slice a2 n2 c2') := by unfold World.cell?; rw [hfb]; rfl
  clear hoth hfb
  go_wp2
  refine bodyPost_ret (v := .agg #[.slice a1 n1 c1', .slice a2 n2 c2']) (by simp [results, Tryz.results61, go_sem, f0, f1]) rfl ?_
  have e1 := HM1.out
  have e2 := HM2.out
  subst e1 e2
  refine ⟨_, _, _, _, rfl, HLF.out, HDF.out, fun k hk e => ?_, HBF.out⟩
  have q1 := HA1.out k hk
  have q2 := HA2.out k e
  omega

end Go.Proofs.YtfoglaajnlbnbaaGreatDoor

namespace Go.Proofs.YtfoglaajnlbnbaaGreatDoor
open Go.RowKit Go.Maps
set_option maxRecDepth 20000
set_option linter.unusedVariables false

def lsayT (t : Tk) : Int := if t.1 = 0 then 1 else t.1
def lsay (R : List Tk) : Int := (R.map lsayT).sum

theorem lsay_snoc (R : List Tk) (t : Tk) : lsay (R ++ [t]) = lsay R + lsayT t := by simp [lsay]

theorem lsay_in : ∀ A : List Tk, asnd A = true → 0 ≤ lsay A ∧ lsay A ≤ 258 * (A.length : Int)
  | [], _ => by simp [lsay]
  | t :: A, h => by
    have h0 : sndb t = true ∧ asnd A = true := by simpa [asnd] using h
    have h2 := lsay_in A h0.2
    have h1 : 0 ≤ lsayT t ∧ lsayT t ≤ 258 := by
      have := of_decide_eq_true (show decide (Snd t) = true from h0.1)
      unfold Snd at this
      unfold lsayT
      by_cases e : t.1 = 0
      · rw [if_pos e]; omega
      · rw [if_neg e] at this ⊢; omega
    have e : lsay (t :: A) = lsayT t + lsay A := by simp [lsay]
    rw [e]
    simp only [List.length_cons]
    omega

end Go.Proofs.YtfoglaajnlbnbaaGreatDoor

