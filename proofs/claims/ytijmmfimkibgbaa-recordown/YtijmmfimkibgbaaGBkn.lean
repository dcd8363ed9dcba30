import Derived.Test.YtijmmfimkibgbaaGCnn
namespace Go.Proofs.Ytijmmfimkibgbaa
open Go.RowKit Go.Maps
set_option maxRecDepth 20000
set_option linter.unusedVariables false
set_option linter.unusedSimpArgs false

theorem le_put (v : Int) (n : Nat) (h0 : 0 ≤ v) (h1 : v < 256 ^ n) : le (bytesLE v n) = v := by
  induction n generalizing v with
  | zero => simp at h1; simp [bytesLE, le]; omega
  | succ n ih =>
    simp only [bytesLE, le]
    rw [ih (v / 256) (by omega) (by rw [Int.pow_succ] at h1; omega)]
    omega

theorem nums_str (s : ByteArray) : strOfNums (strL s) = s := by
  unfold strOfNums strL
  rw [List.map_map]
  have e : (s.data.toList.map ((fun n : Int => UInt8.ofNat n.toNat) ∘ fun b => (b.toNat : Int))) = s.data.toList := by
    rw [show ((fun n : Int => UInt8.ofNat n.toNat) ∘ fun b : UInt8 => (b.toNat : Int)) = id from by funext b; simp]
    simp
  rw [e]

theorem drop_num {D b : List Int} {its : List Itm} {k n : Nat} {v : Int} (hD : D.drop k = rowI (.num v n :: its) ++ b) (hw : ¬ wide v n) : fld D k n = v ∧ D.drop (k + n) = rowI its ++ b := by
  have hl := length_bytesLE v n
  have e : rowI (.num v n :: its) ++ b = bytesLE v n ++ (rowI its ++ b) := by rw [rowI_cons, List.append_assoc]; rfl
  rw [e] at hD
  constructor
  · unfold fld sub
    rw [hD, List.take_left' hl]
    exact le_put v n (by unfold wide at hw; omega) (by unfold wide at hw; omega)
  · rw [← List.drop_drop, hD, List.drop_left' hl]

theorem drop_txt {D b : List Int} {its : List Itm} {k : Nat} {s : ByteArray} (hD : D.drop k = rowI (.txt s :: its) ++ b) : sub D k s.size = strL s ∧ D.drop (k + s.size) = rowI its ++ b := by
  have hl := length_strL s
  have e : rowI (.txt s :: its) ++ b = strL s ++ (rowI its ++ b) := by rw [rowI_cons, List.append_assoc]; rfl
  rw [e] at hD
  constructor
  · unfold sub
    rw [hD, List.take_left' hl]
  · rw [← List.drop_drop, hD, List.drop_left' hl]

theorem be_ok {D : List Int} {k n : Nat} {sig : Int} (h : k + n ≤ D.length) (hs : fld D k 4 = sig) : beE D k n sig = 0 := by
  unfold beE
  rw [if_neg (by omega), if_neg (by omega), Int.toNat_natCast, if_neg (by simp [hs])]

theorem lo_back {D b : List Int} {k : Nat} {l : Loc} (hk : k ≤ D.length) (hD : D.drop k = rowI (loI l) ++ b) (hf : fitI (loI l)) : loE D k = 0 ∧ loA D k = l ∧ loP D k = (k : Int) + (rowI (loI l)).length := by
  have hlen : D.length = k + (rowI (loI l)).length + b.length := by
    have := congrArg List.length hD
    rw [List.length_drop, List.length_append] at this
    omega
  have hr := loI_row l
  rw [hr] at hlen ⊢
  simp only [loI, lcI, List.cons_append, List.nil_append] at hD
  obtain ⟨f0, hD⟩ := drop_num hD (hf (.num 67324752 4) (by simp [loI, lcI]))
  obtain ⟨f1, hD⟩ := drop_num hD (hf (.num l.need 2) (by simp [loI, lcI]))
  obtain ⟨f2, hD⟩ := drop_num hD (hf (.num l.flags 2) (by simp [loI, lcI]))
  obtain ⟨f3, hD⟩ := drop_num hD (hf (.num l.method 2) (by simp [loI, lcI]))
  obtain ⟨f4, hD⟩ := drop_num hD (hf (.num l.clock 2) (by simp [loI, lcI]))
  obtain ⟨f5, hD⟩ := drop_num hD (hf (.num l.date 2) (by simp [loI, lcI]))
  obtain ⟨f6, hD⟩ := drop_num hD (hf (.num l.sum 4) (by simp [loI, lcI]))
  obtain ⟨f7, hD⟩ := drop_num hD (hf (.num l.packed 4) (by simp [loI, lcI]))
  obtain ⟨f8, hD⟩ := drop_num hD (hf (.num l.size 4) (by simp [loI, lcI]))
  obtain ⟨f9, hD⟩ := drop_num hD (hf (.num (l.name.size : Int) 2) (by simp [loI, lcI]))
  obtain ⟨f10, hD⟩ := drop_num hD (hf (.num (l.extra.size : Int) 2) (by simp [loI, lcI]))
  obtain ⟨t0, hD⟩ := drop_txt hD
  obtain ⟨t1, hD⟩ := drop_txt hD
  have e0 : fld D k 4 = 67324752 := f0
  have hN : loN D k = l.name.size := by unfold loN; rw [show fld D (k + 26) 2 = _ from f9]; simp
  have hX : loX D k = l.extra.size := by unfold loX; rw [show fld D (k + 28) 2 = _ from f10]; simp
  have hb := be_ok (n := 30) (show k + 30 ≤ D.length by omega) e0
  have hE : loE D k = 0 := by
    unfold loE
    rw [if_neg (by simp [hb]), Int.toNat_natCast, hN, hX, if_neg (by omega)]
  have hg := lo_good hE
  refine ⟨hE, ?_, ?_⟩
  · rw [hg.1]
    unfold loG rdG
    rw [hN, hX, show sub D (k + 30) l.name.size = _ from t0, show sub D (k + 30 + l.name.size) l.extra.size = _ from t1, nums_str, nums_str]
    rw [show fld D (k + 4) 2 = _ from f1, show fld D (k + 4 + 2) 2 = _ from f2, show fld D (k + 4 + 4) 2 = _ from f3, show fld D (k + 4 + 6) 2 = _ from f4, show fld D (k + 4 + 8) 2 = _ from f5, show fld D (k + 4 + 10) 4 = _ from f6, show fld D (k + 4 + 14) 4 = _ from f7, show fld D (k + 4 + 18) 4 = _ from f8]
  · rw [hg.2, hN, hX]; omega

theorem ce_back {D b : List Int} {k : Nat} {c : Cen} (hk : k ≤ D.length) (hD : D.drop k = rowI (ceI c) ++ b) (hf : fitI (ceI c)) : ceE D k = 0 ∧ ceA D k = c ∧ ceP D k = (k : Int) + (rowI (ceI c)).length := by
  have hlen : D.length = k + (rowI (ceI c)).length + b.length := by
    have := congrArg List.length hD
    rw [List.length_drop, List.length_append] at this
    omega
  have hr := ceI_row c
  rw [hr] at hlen ⊢
  simp only [ceI, lcI, List.cons_append, List.nil_append] at hD
  obtain ⟨f0, hD⟩ := drop_num hD (hf (.num 33639248 4) (by simp [ceI, lcI]))
  obtain ⟨f1, hD⟩ := drop_num hD (hf (.num c.made 2) (by simp [ceI, lcI]))
  obtain ⟨f2, hD⟩ := drop_num hD (hf (.num c.loc.need 2) (by simp [ceI, lcI]))
  obtain ⟨f3, hD⟩ := drop_num hD (hf (.num c.loc.flags 2) (by simp [ceI, lcI]))
  obtain ⟨f4, hD⟩ := drop_num hD (hf (.num c.loc.method 2) (by simp [ceI, lcI]))
  obtain ⟨f5, hD⟩ := drop_num hD (hf (.num c.loc.clock 2) (by simp [ceI, lcI]))
  obtain ⟨f6, hD⟩ := drop_num hD (hf (.num c.loc.date 2) (by simp [ceI, lcI]))
  obtain ⟨f7, hD⟩ := drop_num hD (hf (.num c.loc.sum 4) (by simp [ceI, lcI]))
  obtain ⟨f8, hD⟩ := drop_num hD (hf (.num c.loc.packed 4) (by simp [ceI, lcI]))
  obtain ⟨f9, hD⟩ := drop_num hD (hf (.num c.loc.size 4) (by simp [ceI, lcI]))
  obtain ⟨f10, hD⟩ := drop_num hD (hf (.num (c.loc.name.size : Int) 2) (by simp [ceI, lcI]))
  obtain ⟨f11, hD⟩ := drop_num hD (hf (.num (c.loc.extra.size : Int) 2) (by simp [ceI, lcI]))
  obtain ⟨f12, hD⟩ := drop_num hD (hf (.num (c.comment.size : Int) 2) (by simp [ceI, lcI]))
  obtain ⟨f13, hD⟩ := drop_num hD (hf (.num c.disk 2) (by simp [ceI, lcI]))
  obtain ⟨f14, hD⟩ := drop_num hD (hf (.num c.internal 2) (by simp [ceI, lcI]))
  obtain ⟨f15, hD⟩ := drop_num hD (hf (.num c.external 4) (by simp [ceI, lcI]))
  obtain ⟨f16, hD⟩ := drop_num hD (hf (.num c.at' 4) (by simp [ceI, lcI]))
  obtain ⟨t0, hD⟩ := drop_txt hD
  obtain ⟨t1, hD⟩ := drop_txt hD
  obtain ⟨t2, hD⟩ := drop_txt hD
  have e0 : fld D k 4 = 33639248 := f0
  have hN : ceN D k = c.loc.name.size := by unfold ceN; rw [show fld D (k + 28) 2 = _ from f10]; simp
  have hX : ceX D k = c.loc.extra.size := by unfold ceX; rw [show fld D (k + 30) 2 = _ from f11]; simp
  have hM : ceM D k = c.comment.size := by unfold ceM; rw [show fld D (k + 32) 2 = _ from f12]; simp
  have hb := be_ok (n := 46) (show k + 46 ≤ D.length by omega) e0
  have hE : ceE D k = 0 := by
    unfold ceE
    rw [if_neg (by simp [hb]), Int.toNat_natCast, hN, hX, hM, if_neg (by omega)]
  have hg := ce_good hE
  refine ⟨hE, ?_, ?_⟩
  · rw [hg.1]
    unfold ceR rdG
    rw [hN, hX, hM, show sub D (k + 46) c.loc.name.size = _ from t0, show sub D (k + 46 + c.loc.name.size) c.loc.extra.size = _ from t1, show sub D (k + 46 + c.loc.name.size + c.loc.extra.size) c.comment.size = _ from t2, nums_str, nums_str, nums_str]
    rw [show fld D (k + 4) 2 = _ from f1, show fld D (k + 6) 2 = _ from f2, show fld D (k + 6 + 2) 2 = _ from f3, show fld D (k + 6 + 4) 2 = _ from f4, show fld D (k + 6 + 6) 2 = _ from f5, show fld D (k + 6 + 8) 2 = _ from f6, show fld D (k + 6 + 10) 4 = _ from f7, show fld D (k + 6 + 14) 4 = _ from f8, show fld D (k + 6 + 18) 4 = _ from f9, show fld D (k + 34) 2 = _ from f13, show fld D (k + 36) 2 = _ from f14, show fld D (k + 38) 4 = _ from f15, show fld D (k + 42) 4 = _ from f16]
  · rw [hg.2, hN, hX, hM]; omega

theorem en_back {D b : List Int} {k : Nat} {x : Enr} (hk : k ≤ D.length) (hD : D.drop k = rowI (enI x) ++ b) (hf : fitI (enI x)) : enE D k = 0 ∧ enA D k = x ∧ enP D k = (k : Int) + (rowI (enI x)).length := by
  have hlen : D.length = k + (rowI (enI x)).length + b.length := by
    have := congrArg List.length hD
    rw [List.length_drop, List.length_append] at this
    omega
  have hr := enI_row x
  rw [hr] at hlen ⊢
  simp only [enI, List.cons_append, List.nil_append] at hD
  obtain ⟨f0, hD⟩ := drop_num hD (hf (.num 101010256 4) (by simp [enI]))
  obtain ⟨f1, hD⟩ := drop_num hD (hf (.num x.disk 2) (by simp [enI]))
  obtain ⟨f2, hD⟩ := drop_num hD (hf (.num x.dirDisk 2) (by simp [enI]))
  obtain ⟨f3, hD⟩ := drop_num hD (hf (.num x.here 2) (by simp [enI]))
  obtain ⟨f4, hD⟩ := drop_num hD (hf (.num x.total 2) (by simp [enI]))
  obtain ⟨f5, hD⟩ := drop_num hD (hf (.num x.dirSize 4) (by simp [enI]))
  obtain ⟨f6, hD⟩ := drop_num hD (hf (.num x.dirAt 4) (by simp [enI]))
  obtain ⟨f7, hD⟩ := drop_num hD (hf (.num (x.comment.size : Int) 2) (by simp [enI]))
  obtain ⟨t0, hD⟩ := drop_txt hD
  have e0 : fld D k 4 = 101010256 := f0
  have hN : fld D (k + 20) 2 = (x.comment.size : Int) := f7
  have hb := be_ok (n := 22) (show k + 22 ≤ D.length by omega) e0
  have hE : enE D k = 0 := by
    unfold enE
    rw [if_neg (by simp [hb]), Int.toNat_natCast, hN, if_neg (by omega)]
  have hg := en_good hE
  refine ⟨hE, ?_, ?_⟩
  · rw [hg.1]
    unfold enG
    rw [hN, Int.toNat_natCast, show sub D (k + 22) x.comment.size = _ from t0, nums_str]
    rw [show fld D (k + 4) 2 = _ from f1, show fld D (k + 6) 2 = _ from f2, show fld D (k + 8) 2 = _ from f3, show fld D (k + 10) 2 = _ from f4, show fld D (k + 12) 4 = _ from f5, show fld D (k + 16) 4 = _ from f6]
  · rw [hg.2, hN]; omega

theorem fld_take {D : List Int} {m k n : Nat} (h : k + n ≤ m) : fld (D.take m) k n = fld D k n := by
  unfold fld sub
  rw [List.drop_take, List.take_take, Nat.min_eq_left (by omega)]

theorem be_short {D : List Int} {n : Nat} {sig : Int} (h : D.length < n) : beE D 0 n sig = 122 := by
  unfold beE
  rw [if_neg (by omega), if_pos (by omega)]

theorem be_sig {D : List Int} {n : Nat} {sig : Int} (h : n ≤ D.length) (hs : fld D 0 4 ≠ sig) : beE D 0 n sig = 123 := by
  unfold beE
  rw [if_neg (by omega), if_neg (by omega), show (0 : Int).toNat = 0 from rfl, if_pos hs]

/-- The last bytes are missing. -/
theorem lo_cut {D : List Int} {m : Nat} (h : loE D 0 = 0) (hp : loP D 0 = D.length) (hm : m < D.length) : loE (D.take m) 0 = 122 := by
  obtain ⟨k, hk, hl, hs⟩ := lo_at h
  obtain rfl : k = 0 := by omega
  have hg := (lo_good (k := 0) h).2
  rw [show loP D ((0 : Nat) : Int) = loP D 0 from rfl, hp] at hg
  have hlen : (D.take m).length = m := by rw [List.length_take]; omega
  unfold loE
  by_cases h30 : m < 30
  · rw [be_short (by omega), if_pos (by omega)]
  · have hb : beE (D.take m) 0 30 67324752 = 0 := be_ok (k := 0) (by omega) (by rw [fld_take (by omega)]; exact hs)
    rw [if_neg (by simp [hb]), show (0 : Int).toNat = 0 from rfl]
    have e1 : loN (D.take m) 0 = loN D 0 := by unfold loN; rw [fld_take (by omega)]
    have e2 : loX (D.take m) 0 = loX D 0 := by unfold loX; rw [fld_take (by omega)]
    rw [e1, e2, hlen, if_pos (by omega)]

theorem ce_cut {D : List Int} {m : Nat} (h : ceE D 0 = 0) (hp : ceP D 0 = D.length) (hm : m < D.length) : ceE (D.take m) 0 = 122 := by
  obtain ⟨k, hk, hl, hs⟩ := ce_at h
  obtain rfl : k = 0 := by omega
  have hg := (ce_good (k := 0) h).2
  rw [show ceP D ((0 : Nat) : Int) = ceP D 0 from rfl, hp] at hg
  have hlen : (D.take m).length = m := by rw [List.length_take]; omega
  unfold ceE
  by_cases h46 : m < 46
  · rw [be_short (by omega), if_pos (by omega)]
  · have hb : beE (D.take m) 0 46 33639248 = 0 := be_ok (k := 0) (by omega) (by rw [fld_take (by omega)]; exact hs)
    rw [if_neg (by simp [hb]), show (0 : Int).toNat = 0 from rfl]
    have e1 : ceN (D.take m) 0 = ceN D 0 := by unfold ceN; rw [fld_take (by omega)]
    have e2 : ceX (D.take m) 0 = ceX D 0 := by unfold ceX; rw [fld_take (by omega)]
    have e3 : ceM (D.take m) 0 = ceM D 0 := by unfold ceM; rw [fld_take (by omega)]
    rw [e1, e2, e3, hlen, if_pos (by omega)]

theorem en_cut {D : List Int} {m : Nat} (h : enE D 0 = 0) (hp : enP D 0 = D.length) (hm : m < D.length) : enE (D.take m) 0 = 122 := by
  obtain ⟨k, hk, hl, hs⟩ := en_at h
  obtain rfl : k = 0 := by omega
  have hg := (en_good (k := 0) h).2
  rw [show enP D ((0 : Nat) : Int) = enP D 0 from rfl, hp] at hg
  have hlen : (D.take m).length = m := by rw [List.length_take]; omega
  unfold enE
  by_cases h22 : m < 22
  · rw [be_short (by omega), if_pos (by omega)]
  · have hb : beE (D.take m) 0 22 101010256 = 0 := be_ok (k := 0) (by omega) (by rw [fld_take (by omega)]; exact hs)
    rw [if_neg (by simp [hb]), show (0 : Int).toNat = 0 from rfl, fld_take (by omega), hlen, if_pos (by omega)]

/-- The signature is another one. -/
theorem lo_spoilt {D : List Int} (h : 30 ≤ D.length) (hs : fld D 0 4 ≠ 67324752) : loE D 0 = 123 := by
  unfold loE; rw [be_sig h hs, if_pos (by omega)]
theorem ce_spoilt {D : List Int} (h : 46 ≤ D.length) (hs : fld D 0 4 ≠ 33639248) : ceE D 0 = 123 := by
  unfold ceE; rw [be_sig h hs, if_pos (by omega)]
theorem en_spoilt {D : List Int} (h : 22 ≤ D.length) (hs : fld D 0 4 ≠ 101010256) : enE D 0 = 123 := by
  unfold enE; rw [be_sig h hs, if_pos (by omega)]

theorem byt_set {D : List Int} (hB : Byt D) (j : Nat) {x : Int} (h0 : 0 ≤ x) (h1 : x < 256) : Byt (D.set j x) := by
  intro i
  by_cases h : j = i
  · subst h
    by_cases hl : j < D.length
    · have : (D.set j x).getD j 0 = x := by simp [List.getD, hl]
      rw [this]; exact ⟨h0, h1⟩
    · rw [List.set_eq_of_length_le (by omega)]; exact hB j
  · have : (D.set j x).getD i 0 = D.getD i 0 := by simp [List.getD, List.getElem?_set, h]
    rw [this]; exact hB i

theorem fld_set {D : List Int} (hB : Byt D) (hl : 4 ≤ D.length) {j : Nat} (hj : j < 4) {x : Int} (h0 : 0 ≤ x) (h1 : x < 256) (hx : x ≠ D.getD j 0) : fld (D.set j x) 0 4 ≠ fld D 0 4 := by
  intro he
  have hB2 := byt_set hB j h0 h1
  have e1 := put_fld hB2 (k := 0) (n := 4) (by rw [List.length_set]; omega)
  have e2 := put_fld hB (k := 0) (n := 4) (by omega)
  rw [he, e2] at e1
  have := congrArg (fun l => l.getD j 0) e1
  simp only [sub, List.drop_zero] at this
  have ga : (D.take 4).getD j 0 = D.getD j 0 := by simp [List.getD, List.getElem?_take, hj]
  have gb : ((D.set j x).take 4).getD j 0 = x := by simp [List.getD, List.getElem?_take, hj, show j < D.length by omega]
  rw [ga, gb] at this
  exact hx this.symm
end Go.Proofs.Ytijmmfimkibgbaa

