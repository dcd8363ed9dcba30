import Derived.Test.YtncniahpglgkmaaG13Ibs
import Derived.Test.YtncniahpglgkmaaG40Herd
import Derived.Test.YtncniahpglgkmaaG41Enc
namespace Go.Proofs.Ytncniahpglgkmaa
open Go.RowKit Go.Maps
set_option maxRecDepth 20000

/-- A list of ints. -/
def ti (v : Value) (l : List Int) : Thing :=
  ⟨fun w K => OI w 0 v l ∧ (∀ k, v.ownBlock = some k → K k ≠ 0) ∧ ∀ k, K k ≠ 0 → k < w.heap.size,
   fun h a b => ⟨h.1.move fun k hk => b k (h.2.1 k hk), h.2.1, fun k hk => Nat.lt_of_lt_of_le (h.2.2 k hk) a⟩, fun h => h.2.2⟩

theorem Herd.ilist {W w w' : World} {xs : List ((Nat → Nat) × Thing)} (h : Herd W w xs) (hb : Below w.heap.size w w') {v : Value} {l : List Int} (ho : OI w' w.heap.size v l) : ∃ K, Herd W w' (xs ++ [(K, ti v l)]) := by
  refine ⟨fun k => if v.ownBlock = some k then 1 else 0, h.push hb ⟨ho.base (Nat.zero_le _), fun k hk => by simp [hk], fun k hk => ?_⟩ fun k hk => ?_⟩
  · by_cases e : v.ownBlock = some k
    · exact (ho.lt k e).2
    · simp [e] at hk
  · by_cases e : v.ownBlock = some k
    · exact (ho.lt k e).1
    · simp [e] at hk

theorem Herd.isi {W w : World} {xs : List ((Nat → Nat) × Thing)} (H : Herd W w xs) (i : Nat) {K : Nat → Nat} {v : Value} {l : List Int} (hi : xs[i]? = some (K, ti v l)) : SI w v l := by
  have h : (ti v l).P w K := H.rep i _ hi
  exact h.1.sb

theorem Herd.ioi {W w : World} {xs : List ((Nat → Nat) × Thing)} (H : Herd W w xs) (i : Nat) {K : Nat → Nat} {v : Value} {l : List Int} (hi : xs[i]? = some (K, ti v l)) : OI w 0 v l := by
  have h : (ti v l).P w K := H.rep i _ hi
  exact h.1

theorem Herd.iput {W w : World} {xs : List ((Nat → Nat) × Thing)} (H : Herd W w xs) (i : Nat) {K : Nat → Nat} {v : Value} {l : List Int} (hi : xs[i]? = some (K, ti v l)) {k : Nat} (hk : k < l.length) (m : Int) :
    ∃ g c, v = .slice (some ⟨g, 0, none⟩) l.length c ∧ (∃ u, w.cell? ⟨g, k, none⟩ = some u) ∧ w.frozen? ⟨g, k, none⟩ = false ∧ Herd W (w.setCell ⟨g, k, none⟩ (.int .i64 m)) (xs.set i (K, ti v (l.set k m))) := by
  have h : (ti v l).P w K := H.rep i _ hi
  obtain ⟨g, c, hv, h1, h2, h3⟩ := h.1.put hk m
  have hg : K g ≠ 0 := h.2.1 g (by rw [hv]; rfl)
  exact ⟨g, c, hv, h1, h2, H.op i hi (x' := ti v (l.set k m)) ⟨h3, h.2.1, fun k hk => by rw [size_setCell]; exact h.2.2 k hk⟩ ⟨rfl, rfl, rfl, by rw [size_setCell]; exact Nat.le_refl _, fun b _ h0 => setCell_others _ _ _ _ _ (fun e => hg (by rw [← e]; exact h0)), fun _ _ => rfl⟩⟩

def mk3 : List Int := [-71, -72, -73]

/-- A list with three marks behind it. -/
def Framed (w : World) (base : Nat) (v : Value) (l : List Int) : Prop := OI w base v (l ++ mk3)

theorem length_fr (l : List Int) : (l ++ mk3).length = l.length + 3 := by rw [List.length_append]; rfl

theorem Framed.form {w : World} {base : Nat} {v : Value} {l : List Int} (h : Framed w base v l) : ∃ g c, v = .slice (some ⟨g, 0, none⟩) (l.length + 3) c ∧ base ≤ g ∧ g < w.heap.size ∧ l.length + 3 ≤ c ∧ c ≤ 9223372036854775807 ∧ SI w (.slice (some ⟨g, 0, none⟩) l.length c) l := by
  obtain ⟨g, c, hv, h1, h2, h3, h4⟩ := OI.form h (by rw [length_fr]; omega)
  rw [length_fr] at hv h3
  have hf := h
  unfold Framed at hf
  rw [hv] at hf
  exact ⟨g, c, hv, h1, h2, h3, h4, OI.front (r := mk3) (by rw [length_fr]; exact hf)⟩

end Go.Proofs.Ytncniahpglgkmaa

namespace Go.Proofs.Ytncniahpglgkmaa
open Go.RowKit Go.Maps
set_option maxRecDepth 20000

theorem shp_cases (l : List Int) : shp l = 0 ∨ shp l = 1 ∨ shp l = 2 ∨ shp l = 3 ∨ shp l = 4 := by
  unfold shp
  by_cases c0 : tsum l = 0
  · rw [if_pos c0]; omega
  · rw [if_neg c0]
    by_cases c1 : tsum l = 1 ∧ usum l = 16384
    · rw [if_pos c1]; omega
    · rw [if_neg c1]
      by_cases c2 : 32768 < usum l
      · rw [if_pos c2]; omega
      · rw [if_neg c2]
        by_cases c3 : usum l = 32768
        · rw [if_pos c3]; omega
        · rw [if_neg c3]; omega

theorem dcE_iff (l : List Int) : dcE l = 0 ↔ chkE l = 0 ∧ (shp l = 1 ∨ shp l = 4) := by
  constructor
  · intro h
    obtain ⟨h1, h2, h3, h4⟩ := dcE_zero h
    have hc := shp_cases l
    refine ⟨?_, by omega⟩
    unfold chkE
    rw [if_neg (by have := h1.1; omega), if_pos h1]
  · rintro ⟨h1, h2⟩
    have hb : bkE l = 0 := by unfold bkE; rw [if_neg (by simp [h1]), if_neg (by omega), if_neg (by omega)]
    unfold dcE
    rw [if_neg (by simp [hb]), if_neg (by omega)]

theorem dc_bk {l : List Int} (h : dcE l = 0) : bkE l = 0 := by
  obtain ⟨h1, h2⟩ := (dcE_iff l).1 h
  unfold bkE
  rw [if_neg (by simp [h1]), if_neg (by omega), if_neg (by omega)]

theorem bts_take (v : Int) {n m : Nat} (h : n ≤ m) : (bts v m).take n = bts v n := by
  obtain ⟨k, rfl⟩ : ∃ k, m = n + k := ⟨m - n, by omega⟩
  rw [bts_split, List.take_append_of_le_length (by rw [length_bts]; omega), List.take_of_length_le (by rw [length_bts]; omega)]

/-- What stands at a place is read. -/
theorem nx_word {l row rest : List Int} {p s : Nat} (hd : dcE l = 0) (hh : Has l s) (hb : Bit row) (hr : row.drop p = wb l s ++ rest) : nxE l row p = 0 ∧ nxS l row p = s ∧ nxP l row p = p + ln l s := by
  have hl := (dcE_zero hd).1
  have hu := us_le (dc_bk hd)
  have hlt := word_lt hl hu (s := s)
  have h15 := (hl.ln s).2
  have hdl := congrArg List.length hr
  rw [List.length_drop, List.length_append, wb_len] at hdl
  have hn0 := hh.2
  have hlen : p + ln l s ≤ row.length := by omega
  have hT : ((row.drop p).take 15).take (ln l s) = wb l s := by
    rw [List.take_take, Nat.min_eq_left h15, hr, List.take_append_of_le_length (by rw [wb_len]; exact Nat.le_refl _), List.take_of_length_le (by rw [wb_len]; exact Nat.le_refl _)]
  have hTb : Bit ((row.drop p).take 15) := (hb.drop p).take 15
  have hTl : ln l s ≤ ((row.drop p).take 15).length := by rw [List.length_take, List.length_drop]; omega
  have hv : bts (ahead row p 15) (ln l s) = wb l s := by
    unfold ahead
    rw [← hT]
    have h2 := bts_val hTb
    conv => rhs; rw [← h2]
    exact (bts_take _ hTl).symm
  have hm : mir (ahead row p 15) (ln l s) = (wd l s : Int) := by
    unfold mir
    rw [hv]
    unfold wb
    rw [List.reverse_reverse]
    exact val_bts_in (by omega) (by exact_mod_cast hlt)
  have hrow := mir_row (ahead row p 15) h15
  rw [hm] at hrow
  have hhit : Hit l (rowAt row p) s := hit_iff.2 ⟨hh, by unfold rowAt; exact_mod_cast hrow.symm⟩
  obtain ⟨f1, f2⟩ := fd_hit hl hhit
  have hE : nxE l row p = 0 := by unfold nxE; rw [if_pos f2, f1, if_pos hlen]
  exact ⟨hE, by unfold nxS; rw [if_pos hE, f1], by unfold nxP; rw [if_pos hE, f1]⟩

/-- A list that has grown. -/
theorem Herd.grow {W w w' : World} {xs : List ((Nat → Nat) × Thing)} (H : Herd W w xs) (i : Nat) {K : Nat → Nat} {v v' : Value} {l l' : List Int} (hi : xs[i]? = some (K, ti v l)) {o : Obj} (ho : OI w' 0 v' l') (hg : Grew (w.alloc o) w' v v') : ∃ K', Herd W w' (xs.set i (K', ti v' l')) := by
  have hp : (ti v l).P w K := H.rep i _ hi
  have hs : w.heap.size ≤ w'.heap.size := by have := hg.by.size; rw [size_alloc'] at this; omega
  refine ⟨fun k => if k < w.heap.size then K k else if v'.ownBlock = some k then 1 else 0, H.op i hi (x' := ti v' l') ⟨ho, fun k hk => ?_, fun k hk => ?_⟩ ⟨hg.by.os, hg.by.tape, hg.by.output, hs, fun k hk h0 => ?_, fun k hk => by simp [hk]⟩⟩
  · by_cases c : k < w.heap.size
    · simp only [c, if_true]
      rcases hg.at with e | e
      · rw [e, size_alloc'] at hk
        simp at hk
        omega
      · exact hp.2.1 k (by rw [← e]; exact hk)
    · simp [c, hk]
  · by_cases c : k < w.heap.size
    · omega
    · simp only [c, if_false] at hk
      by_cases e : v'.ownBlock = some k
      · exact (ho.lt k e).2
      · simp [e] at hk
  · have hne : some k ≠ v.ownBlock := fun e => hp.2.1 k e.symm h0
    rw [hg.by.block k (by rw [size_alloc']; omega) hne]
    exact Below.heap_alloc w o k hk

theorem Herd.nilI {W w : World} {xs : List ((Nat → Nat) × Thing)} (H : Herd W w xs) : Herd W w (xs ++ [(fun _ => 0, ti (.slice none 0 0) [])]) :=
  H.push (Below.refl _ _) ⟨World.ownsRow_nil _ _ _ _, fun k hk => by simp [Value.ownBlock] at hk, fun k hk => absurd rfl hk⟩ fun k hk => absurd rfl hk

/-- The symbols that have a word. -/
def kep (l syms : List Int) : List Int := syms.filter fun s => lnI l s != 0
def flat (l ks : List Int) : List Int := ks.flatMap fun s => wb l s.toNat

theorem kep_succ {l syms : List Int} {k : Nat} (h : k < syms.length) : (lnI l (syms.getD k 0) ≠ 0 → kep l (syms.take (k + 1)) = kep l (syms.take k) ++ [syms.getD k 0]) ∧ (lnI l (syms.getD k 0) = 0 → kep l (syms.take (k + 1)) = kep l (syms.take k)) := by
  have e : syms.getD k 0 = syms[k] := by simp [h]
  rw [List.take_succ_eq_append_getElem h, e]
  unfold kep
  rw [List.filter_append]
  constructor
  · intro hz
    congr 1
    rw [List.filter_cons_of_pos (by simpa using hz)]; rfl
  · intro hz
    rw [List.filter_cons_of_neg (by simpa using hz)]; simp

theorem kep_len (l syms : List Int) : (kep l syms).length ≤ syms.length := List.length_filter_le _ _

theorem flat_append (l a b : List Int) : flat l (a ++ b) = flat l a ++ flat l b := by simp [flat]
theorem flat_one (l : List Int) (s : Int) : flat l [s] = wb l s.toNat := by simp [flat]

theorem flat_len {l ks : List Int} (hl : Lens l) : (flat l ks).length ≤ 15 * ks.length := by
  induction ks with
  | nil => simp [flat]
  | cons s ks ih =>
    rw [show s :: ks = [s] ++ ks from rfl, flat_append, flat_one, List.length_append, wb_len, List.length_append]
    have := (hl.ln s.toNat).2
    simp only [List.length_singleton]
    omega

theorem flat_bit (l ks : List Int) : Bit (flat l ks) := by
  induction ks with
  | nil => exact bit_nil
  | cons s ks ih =>
    rw [show s :: ks = [s] ++ ks from rfl, flat_append, flat_one]
    exact (wb_bit _ _).append ih

theorem kep_mem {l syms : List Int} {s : Int} (h : s ∈ kep l syms) : lnI l s ≠ 0 := by
  have := (List.mem_filter.1 h).2
  simpa using this

theorem lnI_has {l : List Int} {s : Int} (h : lnI l s ≠ 0) : Has l s.toNat ∧ ((s.toNat : Nat) : Int) = s ∧ ln l s.toNat = lnI l s := by
  obtain ⟨h1, h2, h3⟩ := lnI_pos h
  exact ⟨⟨by omega, by rw [← h3]; omega⟩, by omega, h3.symm⟩

/-- The place ahead of the i-th word is read. -/
theorem nx_flat {l row0 ks tail : List Int} (hd : dcE l = 0) (hks : ∀ s ∈ ks, lnI l s ≠ 0) (hb : Bit (row0 ++ flat l ks ++ tail)) {i : Nat} (hi : i < ks.length) :
    nxE l (row0 ++ flat l ks ++ tail) (row0.length + (flat l (ks.take i)).length) = 0 ∧ ((nxS l (row0 ++ flat l ks ++ tail) (row0.length + (flat l (ks.take i)).length) : Nat) : Int) = ks.getD i 0 ∧ nxP l (row0 ++ flat l ks ++ tail) (row0.length + (flat l (ks.take i)).length) = row0.length + (flat l (ks.take (i + 1))).length := by
  have e : ks.getD i 0 = ks[i] := by simp [hi]
  have hm : ks[i] ∈ ks := List.getElem_mem hi
  obtain ⟨h1, h2, h3⟩ := lnI_has (hks _ hm)
  have hsplit : ks = ks.take i ++ ([ks[i]] ++ ks.drop (i + 1)) := by
    conv => lhs; rw [← List.take_append_drop i ks]
    rw [List.drop_eq_getElem_cons hi]; rfl
  have hdrop : (row0 ++ flat l ks ++ tail).drop (row0.length + (flat l (ks.take i)).length) = wb l ks[i].toNat ++ (flat l (ks.drop (i + 1)) ++ tail) := by
    have e1 : flat l ks = flat l (ks.take i) ++ (wb l ks[i].toNat ++ flat l (ks.drop (i + 1))) := by
      conv => lhs; rw [hsplit]
      rw [flat_append, flat_append, flat_one]
    rw [e1]
    rw [show row0 ++ (flat l (ks.take i) ++ (wb l ks[i].toNat ++ flat l (ks.drop (i + 1)))) ++ tail = (row0 ++ flat l (ks.take i)) ++ (wb l ks[i].toNat ++ (flat l (ks.drop (i + 1)) ++ tail)) by simp [List.append_assoc]]
    rw [← List.length_append, List.drop_left]
  obtain ⟨n1, n2, n3⟩ := nx_word hd h1 hb hdrop
  refine ⟨n1, by rw [n2, e]; exact h2, ?_⟩
  rw [n3, List.take_succ_eq_append_getElem hi, flat_append, flat_one, List.length_append, wb_len]
  omega
end Go.Proofs.Ytncniahpglgkmaa

