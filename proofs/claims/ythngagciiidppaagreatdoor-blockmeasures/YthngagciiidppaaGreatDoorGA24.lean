import Derived.Test.YthngagciiidppaaGreatDoorGA07
import Derived.Test.YthngagciiidppaaGreatDoorGA21
import Derived.Test.YthngagciiidppaaGreatDoorGA23
namespace Go.Proofs.YthngagciiidppaaGreatDoor
open Go.RowKit Go.Maps
set_option maxRecDepth 20000
set_option linter.unusedVariables false

theorem otrees_any (al ad : Option Addr) (nl cl nd cd : Nat) (L D : List Int) (w : World) (h1 : SI w (.slice al nl cl) L) (h2 : SI w (.slice ad nd cd) D) (k1 : ∀ k, (Value.slice al nl cl).ownBlock = some k → k < w.heap.size) (k2 : ∀ k, (Value.slice ad nd cd).ownBlock = some k → k < w.heap.size) :
    Calls Tryz.prog 30 #[.agg #[.slice al nl cl, .slice ad nd cd]] w fun e w' => ∃ a1 c1 a2 c2, e = .returned (.agg #[.slice a1 (lmL L 15).length c1, .slice a2 (lmL D 15).length c2]) ∧ OI w' w.heap.size (.slice a1 (lmL L 15).length c1) (lmL L 15) ∧ OI w' w.heap.size (.slice a2 (lmL D 15).length c2) (lmL D 15) ∧
      (∀ k, (Value.slice a1 (lmL L 15).length c1).ownBlock = some k → (Value.slice a2 (lmL D 15).length c2).ownBlock ≠ some k) ∧ Below w.heap.size w w' := by
  obtain ⟨wb, hwb⟩ : ∃ wb, w.alloc (.cells #[.slice al nl cl, .slice ad nd cd] 38) = wb := ⟨_, rfl⟩
  obtain ⟨wr, hwr⟩ : ∃ wr, wb.alloc (.cells #[.slice none 0 0, .slice none 0 0] 38) = wr := ⟨_, rfl⟩
  have HB1 : Hid (Below w.heap.size w wb) := by rw [← hwb]; exact (Below.refl _ _).alloc (Nat.le_refl _) _
  have HB2 : Hid (Below w.heap.size w wr) := by rw [← hwr]; exact HB1.out.alloc HB1.out.size _
  have sb : wb.heap.size = w.heap.size + 1 := by rw [← hwb]; simp
  have sr : wr.heap.size = w.heap.size + 1 + 1 := by rw [← hwr]; simp [sb]
  have n1 : wr.heap[w.heap.size]? = some (.cells #[.slice al nl cl, .slice ad nd cd] 38 (0, 0)) := by rw [← hwr, alloc_at, if_neg (by omega), ← hwb, alloc_at, if_pos rfl]
  have n2 : wr.heap[w.heap.size + 1]? = some (.cells #[.slice none 0 0, .slice none 0 0] 38 (0, 0)) := by rw [← hwr, alloc_at, if_pos sb.symm]
  have c0 : wr.cell? ⟨w.heap.size, 0, none⟩ = some (.slice al nl cl) := by unfold World.cell?; rw [n1]; rfl
  have c1 : wr.cell? ⟨w.heap.size, 1, none⟩ = some (.slice ad nd cd) := by unfold World.cell?; rw [n1]; rfl
  have HL1 := hide (limited_any _ L 15 wr (h1.below HB2.out) (fun k hk => by have := k1 k hk; omega) (by decide))
  have HL2 : Hid (∀ w2, Below wr.heap.size wr w2 → Calls Tryz.prog 50 #[.slice ad nd cd, .int .i64 15] w2 fun e w' => ∃ a c, e = .returned (.tuple #[.slice a (lmL D 15).length c, .int .i64 (lmE D 15)]) ∧ OI w' w2.heap.size (.slice a (lmL D 15).length c) (lmL D 15) ∧ Below w2.heap.size w2 w') :=
    fun w2 b2 => limited_any _ D 15 w2 ((h2.below HB2.out).below b2) (fun k hk => by have := k2 k hk; have := b2.size; omega) (by decide)
  have HN1 := hide n1
  have HN2 := hide n2
  have HSR := hide sr
  obtain ⟨r, hr⟩ : ∃ r, w.heap.size + 1 = r := ⟨_, rfl⟩
  have HRL : Hid (r < wr.heap.size) := by show _ < _; omega
  rw [hr] at HN2 sb
  clear h1 h2 k1 k2 n1 n2 sr
  go_enter Tryz.func30, Tryz.ntmps30
  go_wp2_with fail
  refine HL1.out.mono ?_
  rintro e w3 ⟨a1, c1', rfl, o3, b3⟩
  have z1 : w3.cell? ⟨w.heap.size, 1, none⟩ = some (.slice ad nd cd) := (b3.cell (World.block_lt_of_cell? _ _ c1)).trans c1
  have HC2 := hide (HL2.out w3 b3)
  have HO3 := hide o3
  have HB3 := hide (HB2.out.trans (b3.mono HB2.out.size))
  have HN3 := hide ((b3.block r HRL.out).trans HN2.out)
  have HS3 := hide b3.size
  clear HL1 HL2 c0 c1 o3 b3 HN1 HN2
  go_wp2_with fail
  refine HC2.out.mono ?_
  rintro e w4 ⟨a2, c2', rfl, o4, b4⟩
  have HB4 := hide (HB3.out.trans (b4.mono HB3.out.size))
  have HN4 := hide ((b4.block r (lt_of_block HN3.out)).trans HN3.out)
  have HO4 := hide o4
  have HP4 := hide (HO3.out.move fun k hk => b4.block k (HO3.out.lt k hk).2)
  have hap : ∀ k, (Value.slice a1 (lmL L 15).length c1').ownBlock = some k → k ≠ r ∧ w.heap.size ≤ k ∧ k < w3.heap.size := fun k hk => by
    have := HO3.out.lt k hk
    have := HSR.out
    omega
  have hap2 : ∀ k, (Value.slice a2 (lmL D 15).length c2').ownBlock = some k → k ≠ r ∧ w.heap.size ≤ k ∧ w3.heap.size ≤ k := fun k hk => by
    have := HO4.out.lt k hk
    have := HSR.out
    have := HS3.out
    omega
  have HA1 := hide hap
  have HA2 := hide hap2
  have r0 : w4.cell? ⟨r, 0, none⟩ = some (.slice none 0 0) := by unfold World.cell?; rw [HN4.out]; rfl
  have r1 : w4.cell? ⟨r, 1, none⟩ = some (.slice none 0 0) := by unfold World.cell?; rw [HN4.out]; rfl
  have r2 : w4.frozen? ⟨r, 0, none⟩ = false := frozen_of_row _ _ _ _ _ HN4.out
  have r3 : w4.frozen? ⟨r, 1, none⟩ = false := frozen_of_row _ _ _ _ _ HN4.out
  clear z1 HC2 o4 b4 hap hap2 HN3 HO3 HS3
  obtain ⟨n1, HM1⟩ : ∃ n, Hid (n = (lmL L 15).length) := ⟨_, rfl⟩
  obtain ⟨n2, HM2⟩ : ∃ n, Hid (n = (lmL D 15).length) := ⟨_, rfl⟩
  rw [← HM1.out] at HP4 HA1 ⊢
  rw [← HM2.out] at HO4 HA2 ⊢
  obtain ⟨wf, hwf⟩ : ∃ wf, (w4.setCell ⟨r, 0, none⟩ (.slice a1 n1 c1')).setCell ⟨r, 1, none⟩ (.slice a2 n2 c2') = wf := ⟨_, rfl⟩
  have hoth : ∀ k, k ≠ r → wf.heap[k]? = w4.heap[k]? := fun k hk => by rw [← hwf, setCell_others _ _ _ _ _ hk, setCell_others _ _ _ _ _ hk]
  have HBF : Hid (Below w.heap.size w wf) := by rw [← hwf]; exact (HB4.out.setCell (p := ⟨r, 0, none⟩) (by show _ ≤ r; omega) _).setCell (p := ⟨r, 1, none⟩) (by show _ ≤ r; omega) _
  have HLF : Hid (OI wf w.heap.size (.slice a1 n1 c1') (lmL L 15)) := (HP4.out.base (by have := HSR.out; omega)).move fun k hk => hoth k (HA1.out k hk).1
  have HDF : Hid (OI wf w.heap.size (.slice a2 n2 c2') (lmL D 15)) := (HO4.out.base (by have := HB3.out.size; omega)).move fun k hk => hoth k (HA2.out k hk).1
  have hfb : wf.heap[r]? = some (.cells #[.slice a1 n1 c1', .slice a2 n2 c2'] 38 (0, 0)) := by
    have h1 := heap_setCell_same w4 r 0 _ _ (.slice a1 n1 c1') HN4.out
    have h2 := heap_setCell_same _ r 1 _ _ (.slice a2 n2 c2') h1
    rw [hwf] at h2
    simpa using h2
  have f0 : wf.cell? ⟨r, 0, none⟩ = some (.slice a1 n1 c1') := by unfold World.cell?; rw [hfb]; rfl
  have f1 : wf.cell? ⟨r, 1, none⟩ = some (.slice a2 n2 c2') := by unfold World.cell?; rw [hfb]; rfl
  clear hoth hfb
  go_wp2
  refine bodyPost_ret (v := .agg #[.slice a1 n1 c1', .slice a2 n2 c2']) (by simp [results, Tryz.results30, go_sem, f0, f1]) rfl ?_
  have e1 := HM1.out
  have e2 := HM2.out
  subst e1 e2
  refine ⟨_, _, _, _, rfl, HLF.out, HDF.out, fun k hk e => ?_, HBF.out⟩
  have q1 := HA1.out k hk
  have q2 := HA2.out k e
  omega

/-- What Trees answers. -/
noncomputable def trL (R : List Tk) : List Int := if ctE R = 0 then lmL (ctL R) 15 else []
noncomputable def trD (R : List Tk) : List Int := if ctE R = 0 then lmL (ctD R) 15 else []

def Tra (B : Nat) (R : List Tk) (e : Ending) (w w' : World) : Prop :=
  ∃ vl vd, e = .returned (.tuple #[vl, vd, .int .i64 (ctE R)]) ∧ OI w' B vl (trL R) ∧ OI w' B vd (trD R) ∧ (∀ k, vl.ownBlock = some k → vd.ownBlock ≠ some k) ∧ Below B w w'

theorem tra_no {R : List Tk} {B : Nat} {w w' : World} (hE : ctE R ≠ 0) (hb : Below B w w') : Tra B R (.returned (.tuple #[.slice none 0 0, .slice none 0 0, .int .i64 (ctE R)])) w w' := by
  have h1 : trL R = [] := by unfold trL; rw [if_neg hE]
  have h2 : trD R = [] := by unfold trD; rw [if_neg hE]
  refine ⟨_, _, rfl, by rw [h1]; exact oi_nil10 _ _, by rw [h2]; exact oi_nil10 _ _, fun k hk => by simp [Value.ownBlock] at hk, hb⟩

theorem xTrees_any (v : Value) (R : List Tk) (w : World) (h : SK w v R) (hb : ∀ t ∈ R, Bt t) : Calls Tryz.prog 17 #[v] w fun e w' => Tra w.heap.size R e w w' := by
  have HC := hide (xCount_any v R w h hb)
  obtain ⟨ao, cap, rfl, hlc, hcm⟩ := h.open
  clear h hb
  go_enter Tryz.func17, Tryz.ntmps17
  go_wp2_with fail
  refine HC.out.mono ?_
  rintro e w1 ⟨vl, vd, rfl, o1, o2, o3, b1⟩
  have HB1 := hide b1
  by_cases hE : ctE R = 0
  · have HE := hide hE
    have HT := hide (xlimited_any _ _ 15 w1 o1.sb (by decide))
    have HT2 := hide (fun w2 (hb : Below w1.heap.size w1 w2) => xlimited_any _ _ 15 w2 (o2.sb.below hb) (by decide))
    rw [hE]
    clear o1 o2 o3 b1 HC hE
    go_wp2_with fail
    refine HT.out.mono ?_
    rintro e w2 ⟨a1, c1, rfl, p1, b2⟩
    have HT3 := hide (HT2.out w2 b2)
    have HB2 := hide (HB1.out.trans (b2.mono HB1.out.size))
    have HO1 := hide p1
    have HS2 := hide b2.size
    clear p1 b2 HT HT2
    go_wp2_with fail
    refine HT3.out.mono ?_
    rintro e w3 ⟨a2, c2, rfl, p2, b3⟩
    have HB3 := hide (HB2.out.trans (b3.mono HB2.out.size))
    have HP1 := hide ((HO1.out.base HB1.out.size).move fun k hk => b3.block k (HO1.out.lt k hk).2)
    have HP2 := hide (p2.base HB2.out.size)
    have HP3 : Hid (∀ k, (Value.slice a1 (lmL (ctL R) 15).length c1).ownBlock = some k → (Value.slice a2 (lmL (ctD R) 15).length c2).ownBlock ≠ some k) := fun k hk e => by
      have := (HO1.out.lt k hk).2
      have := (p2.lt k e).1
      omega
    clear p2 b3 HT3 HO1
    go_wp2
    refine bodyPost_ret (results_tmp3 rfl _ _ _) rfl ?_
    refine ⟨_, _, by rw [HE.out]; rfl, ?_, ?_, HP3.out, HB3.out⟩
    · unfold trL; rw [if_pos HE.out]; exact HP1.out
    · unfold trD; rw [if_pos HE.out]; exact HP2.out
  · have HTN := hide (tra_no (w := w) hE b1)
    obtain ⟨E, hE2⟩ : ∃ E, ctE R = E := ⟨_, rfl⟩
    rw [hE2] at hE HTN ⊢
    have hne : (E != 0) = true := by simpa using hE
    clear o1 o2 o3 b1 HC hE hE2
    go_wp2
    refine bodyPost_ret (results_tmp3 rfl _ _ _) rfl ?_
    exact HTN.out

end Go.Proofs.YthngagciiidppaaGreatDoor

namespace Go.Proofs.YthngagciiidppaaGreatDoor
open Go.RowKit Go.Maps
set_option maxRecDepth 20000
set_option linter.unusedVariables false

/-- How many bytes the tokens say. -/
def lsayT (t : Tk) : Int := if t.1 = 0 then 1 else t.1
def lsay (R : List Tk) : Int := (R.map lsayT).sum

theorem lsay_snoc (R : List Tk) (t : Tk) : lsay (R ++ [t]) = lsay R + lsayT t := by simp [lsay]

theorem lsay_in : ∀ A : List Tk, asnd A = true → 0 ≤ lsay A ∧ lsay A ≤ 258 * (A.length : Int)
  | [], _ => by simp [lsay]
  | t :: A, h => by
    have h0 : sndb t = true ∧ asnd A = true := by simpa [asnd] using h
    have h2 := lsay_in A h0.2
    have h1 : 0 ≤ lsayT t ∧ lsayT t ≤ 258 := by
      have := of_decide_eq_true (show decide (Snd t) = true from h0.1)
      unfold Snd at this
      unfold lsayT
      by_cases e : t.1 = 0
      · rw [if_pos e]; omega
      · rw [if_neg e] at this ⊢; omega
    have e : lsay (t :: A) = lsayT t + lsay A := by simp [lsay]
    rw [e]
    simp only [List.length_cons]
    omega

/-- What the law's sound answers. -/
def Lsa (R : List Tk) (e : Ending) : Prop := ∃ near, e = .returned (.tuple #[.int .i64 (if asnd R then lsay R else 0), .bool (asnd R), .bool near])

end Go.Proofs.YthngagciiidppaaGreatDoor

namespace Go.Proofs.YthngagciiidppaaGreatDoor
set_option maxRecDepth 20000
set_option linter.unusedVariables false

/-- Counts can be weighed. -/
theorem cnt_sound {l : List Int} {m : Nat} (hl : l.length ≤ 288) (h : Bd l m) (hm : m ≤ 16777217) : Sound l := ⟨hl, fun i hi => by have := h i; omega⟩

theorem cnt_lmE {l : List Int} {m : Nat} (hl : l.length ≤ 288) (h : Bd l m) (hm : m ≤ 16777217) : lmE l 15 = 0 ∧ (us6 l).length ≤ 2 ^ 15 := by
  have h1 : (us6 l).length ≤ 2 ^ 15 := by have := usk_len l l.length; show (usk l l.length).length ≤ _; omega
  refine ⟨?_, h1⟩
  unfold lmE
  rw [if_neg (by omega)]
  have hb : bnb l 4294967296 = true := by
    have := (cnt_sound hl h hm).ok
    exact bnb_iff.2 this
  rw [hb, if_neg (by simp), if_neg (by show ¬ 2 ^ 15 < (us6 l).length; omega)]

theorem ctl_facts {R : List Tk} (hn : R.length ≤ 16777216) (ha : asnd R = true) : ctE R = 0 ∧ (ctL R).length = 286 ∧ (ctD R).length = 30 ∧ Bd (ctL R) 16777217 ∧ Bd (ctD R) 16777217 := by
  have hE : ctE R = 0 := by unfold ctE; rw [if_neg (by omega), if_pos ha]
  have hL : ctL R = (cls (List.replicate 286 0) R).set 256 1 := by unfold ctL; rw [if_pos hE]
  have hD : ctD R = cdt (List.replicate 30 0) R := by unfold ctD; rw [if_pos hE]
  have b1 := bd_cls R (List.replicate 286 0) 0 (bd_zeros 286)
  have b2 := bd_cdt R (List.replicate 30 0) 0 (bd_zeros 30)
  refine ⟨hE, by rw [hL]; simp [cls_len], by rw [hD]; simp [cdt_len], fun i => ?_, bd_more (by rw [hD]; exact b2) (by omega)⟩
  rw [hL]
  by_cases e : i = 256
  · subst e
    have : ((cls (List.replicate 286 0) R).set 256 1).getD 256 0 = 1 := by rw [List.getD_eq_getElem?_getD, List.getElem?_set_self (by rw [cls_len]; simp)]; rfl
    rw [this]; omega
  · have : ((cls (List.replicate 286 0) R).set 256 1).getD i 0 = (cls (List.replicate 286 0) R).getD i 0 := by
      rw [List.getD_eq_getElem?_getD, List.getElem?_set_ne (fun q => e q.symm), ← List.getD_eq_getElem?_getD]
    rw [this]
    have := b1 i
    omega

theorem trl_facts {R : List Tk} (hn : R.length ≤ 16777216) (ha : asnd R = true) : trL R = lmt (ctL R) 15 ∧ (trL R).length = 286 ∧ (trD R).length = 30 ∧ Gd (ctL R) (lmt (ctL R) 15) 15 ∧ Sound (ctL R) := by
  obtain ⟨hE, h1, h2, b1, b2⟩ := ctl_facts hn ha
  have e1 := cnt_lmE (by omega) b1 (by omega)
  have e2 := cnt_lmE (by omega) b2 (by omega)
  have q1 : trL R = lmt (ctL R) 15 := by unfold trL lmL; rw [if_pos hE, if_pos e1.1]; rfl
  have q2 : trD R = lmt (ctD R) 15 := by unfold trD lmL; rw [if_pos hE, if_pos e2.1]; rfl
  have hs := cnt_sound (l := ctL R) (by omega) b1 (by omega)
  exact ⟨q1, by rw [q1, lmt_len, h1], by rw [q2, lmt_len, h2], gd_lmt hs (by omega) e1.2, hs⟩

/-- The sums of the law, behind k symbols. -/
def sK (f o : List Int) (k : Nat) : Nat := ((usk f k).map fun s => 2 ^ (15 - nn o s)).sum
def fK (f o : List Int) (k : Nat) : Nat := fl (fq f) (nn o) (usk f k)

theorem sK_succ (f o : List Int) (k : Nat) : sK f o (k + 1) = sK f o k + if 0 < f.getD k 0 then 2 ^ (15 - nn o k) else 0 := by
  unfold sK
  rw [usk_succ]
  by_cases h : 0 < f.getD k 0
  · rw [if_pos h, if_pos h]; simp
  · rw [if_neg h, if_neg h]; simp

theorem fK_succ (f o : List Int) (k : Nat) : fK f o (k + 1) = fK f o k + if 0 < f.getD k 0 then fq f k * nn o k else 0 := by
  unfold fK fl
  rw [usk_succ]
  by_cases h : 0 < f.getD k 0
  · rw [if_pos h, if_pos h]; simp
  · rw [if_neg h, if_neg h]; simp

theorem kr_sK (f o : List Int) (k : Nat) (h : LenOk f o 15 k) : kr (nn o) (usk f k) = 2 ^ 45 * sK f o k := by
  induction k with
  | zero => simp [kr, sK, usk]
  | succ k ih =>
    have h1 : LenOk f o 15 k := fun s hs => h s (by rw [usk_succ]; exact List.mem_append_left _ hs)
    rw [sK_succ, Nat.mul_add, ← ih h1]
    unfold kr
    rw [usk_succ]
    by_cases hp : 0 < f.getD k 0
    · rw [if_pos hp, if_pos hp]
      have := h k (by rw [usk_succ, if_pos hp]; simp)
      have e : 60 - nn o k = 45 + (15 - nn o k) := by unfold nn; omega
      simp only [List.map_append, List.map_cons, List.map_nil, List.sum_append, List.sum_cons, List.sum_nil, Nat.add_zero]
      rw [e, Nat.pow_add]
    · rw [if_neg hp, if_neg hp]; simp

theorem lok_succ {f o : List Int} {k : Nat} (h : LenOk f o 15 k) (h1 : 0 < f.getD k 0 → 1 ≤ o.getD k 0 ∧ o.getD k 0 ≤ 15) : LenOk f o 15 (k + 1) := by
  intro s hs
  rw [usk_succ] at hs
  rcases List.mem_append.1 hs with hs | hs
  · exact h s hs
  · by_cases hp : 0 < f.getD k 0
    · rw [if_pos hp] at hs
      obtain rfl : s = k := by simpa using hs
      have := h1 hp
      exact ⟨this.1, this.2, by omega⟩
    · rw [if_neg hp] at hs; cases hs

theorem sums_small {f o : List Int} {k : Nat} (h : LenOk f o 15 k) (hb : Bd f 16777217) : sK f o k ≤ k * 16384 ∧ fK f o k ≤ k * 251658255 := by
  induction k with
  | zero => simp [sK, fK, fl, usk]
  | succ k ih =>
    have h1 : LenOk f o 15 k := fun s hs => h s (by rw [usk_succ]; exact List.mem_append_left _ hs)
    have h2 := ih h1
    rw [sK_succ, fK_succ]
    by_cases hp : 0 < f.getD k 0
    · rw [if_pos hp, if_pos hp]
      have h3 := h k (by rw [usk_succ, if_pos hp]; simp)
      have h4 : 2 ^ (15 - nn o k) ≤ 2 ^ 14 := Nat.pow_le_pow_right (by omega) (by unfold nn; omega)
      have h5 : fq f k * nn o k ≤ 16777217 * 15 := Nat.mul_le_mul (by have := hb k; unfold fq; omega) (by unfold nn; omega)
      have h6 : (2 : Nat) ^ 14 = 16384 := by decide
      rw [h6] at h4
      rw [Nat.add_mul, Nat.add_mul]
      constructor
      · exact Nat.add_le_add h2.1 (by omega)
      · exact Nat.add_le_add h2.2 (by omega)
    · rw [if_neg hp, if_neg hp, Nat.add_mul, Nat.add_mul]
      exact ⟨Nat.add_le_add h2.1 (Nat.zero_le _), Nat.add_le_add h2.2 (Nat.zero_le _)⟩

/-- No other code takes fewer bits. -/
theorem best_law {f o : List Int} (hs : Sound f) (hu : (us6 f).length ≤ 2 ^ 15) (ho : LenOk f o 15 f.length) (hk : sK f o f.length ≤ 32768) : fK f (lmt f 15) f.length ≤ fK f o f.length := by
  refine lm_best hs (by omega) hu ho ?_
  show kr (nn o) (usk f f.length) ≤ 2 ^ 60
  rw [kr_sK f o _ ho]
  have e : (2 : Nat) ^ 60 = 2 ^ 45 * 32768 := by decide
  rw [e]
  exact Nat.mul_le_mul_left _ hk
end Go.Proofs.YthngagciiidppaaGreatDoor

namespace Go.Proofs.YthngagciiidppaaGreatDoor
open Go.RowKit Go.Maps
set_option maxRecDepth 20000
set_option linter.unusedVariables false

/-- A stored block's bits. -/
def stz (n a : Int) : Int := 35 + (13 - a % 8) % 8 + 8 * n

theorem stz_facts (n a : Int) : 35 + 8 * n ≤ stz n a ∧ stz n a ≤ 42 + 8 * n ∧ (a % 8 + stz n a) % 8 = 0 ∧ (a % 8 = 0 → stz n a = 40 + 8 * n) := by
  unfold stz
  omega

theorem missing_any (a : Int) (h0 : 0 ≤ a) (h1 : a ≤ 9223372036854775807) (w : World) : Calls Tryz.prog 25 #[.int .i64 a] w fun e w' => e = .returned (.int .i64 ((13 - a % 8) % 8)) ∧ w' = w := by
  obtain ⟨r, hr⟩ : ∃ r, a % 8 = r := ⟨_, rfl⟩
  have hr0 : 0 ≤ r := by omega
  have hr1 : r < 8 := by omega
  obtain ⟨s, hs⟩ : ∃ s, (13 - r) % 8 = s := ⟨_, rfl⟩
  have g1 : a.tmod 8 = r := by rw [Int.tmod_eq_emod_of_nonneg h0]; exact hr
  have g2 : (13 - r).tmod 8 = s := by rw [Int.tmod_eq_emod_of_nonneg (by omega)]; exact hs
  have HR := hide hr
  have HS := hide hs
  clear hr hs
  go_enter Tryz.func25, Tryz.ntmps25
  go_wp2
  go_ret
  rw [HR.out, HS.out]
  exact ⟨rfl, rfl⟩

theorem storedSize_any (n a : Int) (hn0 : 0 ≤ n) (hn1 : n ≤ 65535) (h0 : 0 ≤ a) (h1 : a ≤ 9223372036854775807) (w : World) : Calls Tryz.prog 11 #[.int .i64 n, .int .i64 a] w fun e w' => e = .returned (.int .i64 (stz n a)) ∧ w' = w := by
  have HM := hide (missing_any a h0 h1 w)
  obtain ⟨s, hs⟩ : ∃ s, (13 - a % 8) % 8 = s := ⟨_, rfl⟩
  have hs0 : 0 ≤ s := by omega
  have hs1 : s < 8 := by omega
  have HZ : Hid (stz n a = 3 + s + 32 + 8 * n) := by show _ = _; unfold stz; omega
  rw [hs] at HM
  clear hs
  go_enter Tryz.func11, Tryz.ntmps11
  go_wp2_with fail
  refine HM.out.mono ?_
  rintro e w1 ⟨rfl, hw1⟩
  rw [hw1]
  clear hw1
  go_wp2
  go_ret
  rw [HZ.out]
  exact ⟨rfl, rfl⟩

/-- What said answers. -/
def sdE (R : List Tk) : Int := if asnd R then (if 65535 < lsay R then 102 else 0) else 100
def sdN (R : List Tk) : Int := if asnd R then (if 65535 < lsay R then 0 else lsay R) else 0

theorem lsay_take {R : List Tk} {k : Nat} (hk : k < R.length) : lsay (R.take (k + 1)) = lsay (R.take k) + lsayT (R.getD k tk0) := by
  rw [tk_snoc hk, lsay_snoc]

theorem asnd_take' {R : List Tk} (h : asnd R = true) (k : Nat) : asnd (R.take k) = true := by
  unfold asnd at h ⊢
  rw [List.all_eq_true] at h ⊢
  exact fun t ht => h t (List.mem_of_mem_take ht)

/-- Partial sums of further bits. -/
def fzL (F : List Int) : Nat → Int
  | 0 => 0
  | k + 1 => fzL F k + F.getD (257 + k) 0 * (LF k : Int)
def fzD (G : List Int) : Nat → Int
  | 0 => 0
  | k + 1 => fzD G k + G.getD k 0 * (DF k : Int)

theorem fzL_bd {F : List Int} (h : Bd F 16777217) : ∀ k, k ≤ 29 → 0 ≤ fzL F k ∧ fzL F k ≤ 100000000 * (k : Int)
  | 0, _ => by simp [fzL]
  | k + 1, hk => by
    have ih := fzL_bd h k (by omega)
    have hb := h (257 + k)
    have hf := (lfLe k (by omega)).1
    have h1 : 0 ≤ F.getD (257 + k) 0 * (LF k : Int) := Int.mul_nonneg hb.1 (by omega)
    have h2 : F.getD (257 + k) 0 * (LF k : Int) ≤ 16777217 * 5 := Int.mul_le_mul hb.2 (by omega) (by omega) (by omega)
    simp only [fzL]
    omega

theorem fzD_bd {G : List Int} (h : Bd G 16777217) : ∀ k, k ≤ 30 → 0 ≤ fzD G k ∧ fzD G k ≤ 300000000 * (k : Int)
  | 0, _ => by simp [fzD]
  | k + 1, hk => by
    have ih := fzD_bd h k (by omega)
    have hb := h k
    have hf := (dfLe k (by omega)).1
    have h1 : 0 ≤ G.getD k 0 * (DF k : Int) := Int.mul_nonneg hb.1 (by omega)
    have h2 : G.getD k 0 * (DF k : Int) ≤ 16777217 * 13 := Int.mul_le_mul hb.2 (by omega) (by omega) (by omega)
    simp only [fzD]
    omega

/-- A block's symbols with their further bits. -/
def bdz (F G P Q : List Int) : Int := cstV F (P.take 286) + cstV G (Q.take 30) + (fzL F 29 + fzD G 30)

theorem cstV_bd (f n : List Int) : 0 ≤ cstV f n ∧ cstV f n ≤ 400000000000000 := by
  unfold cstV
  split
  · rename_i h
    unfold cstE at h
    split at h
    · omega
    · rename_i h1
      split at h
      · omega
      · rename_i h2
        have hl : f.length ≤ 288 := by omega
        have b1 : bnd f 4294967296 f.length := bnb_iff.1 (by cases e : bnb f 4294967296 with | true => rfl | false => exact absurd e h2)
        have b2 : bnd n 288 f.length := by
          have hnl : n.length = f.length := by omega
          rw [← hnl]
          exact bnb_iff.1 (by cases e : bnb n 288 with | true => rfl | false => exact absurd (.inr (.inr e)) h1)
        have := cs_bound b1 b2
        omega
  · omega
end Go.Proofs.YthngagciiidppaaGreatDoor

