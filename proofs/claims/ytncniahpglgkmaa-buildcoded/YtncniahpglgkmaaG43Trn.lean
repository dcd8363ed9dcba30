import Derived.Test.YtncniahpglgkmaaG42Dcd
namespace Go.Proofs.Ytncniahpglgkmaa
open Go.RowKit Go.Maps
set_option maxRecDepth 20000

theorem ck11 : chkE [1, 1] = 0 ∧ chkS [1, 1] = 4 := by decide +kernel

theorem built_si (w : World) (cs : List Int) (h : cs.length ≤ 1000) : SI (w.alloc (.cells (cs.map (Value.int .i64)).toArray 3)) (.slice (some ⟨w.heap.size, 0, none⟩) cs.length cs.length) cs := by
  refine ⟨_, _, rfl, Nat.le_refl _, by unfold maxLen; omega, (fun h => by cases h), fun x hx i hi => ?_⟩
  cases hx
  rw [Addr.add_lit, cell_of_row _ _ _ _ _ _ (heap_alloc_new w _)]
  simp [hi]

/-- The bits ahead. -/
def lead0 (lead : Int) : List Int := putRow [] 0 lead

theorem lead_len (lead : Int) : (lead0 lead).length ≤ 32 ∧ Bit (lead0 lead) := by
  unfold lead0 putRow
  split
  case isTrue h =>
    have := h.1.1
    unfold Cnt at this
    rw [List.nil_append, length_bts]
    exact ⟨by omega, bit_bts _ _⟩
  case isFalse h => exact ⟨by simp, bit_nil⟩

def Bk (W : World) (dg cg wg : Nat) (l R0 : List Int) (syms : List Int) (k : Nat) (u : Value) (wr : World) : Prop :=
  ∃ K0 K1 K2 K3, Herd W wr [(K0, td dg l), (K1, te cg l), (K2, tw wg (R0 ++ flat l (kep l (syms.take k)))), (K3, ti u (kep l (syms.take k)))]

theorem ep_ok {l row : List Int} {s : Int} (h : lnI l s ≠ 0) (hr : row.length + 15 ≤ 268435456) (hl : Lens l) : epE l row s = 0 ∧ epR l row s = row ++ wb l s.toNat := by
  obtain ⟨h1, h2, h3⟩ := lnI_has h
  have := (hl.ln s.toNat).2
  have e : epE l row s = 0 := by unfold epE; rw [if_neg h, if_pos (by omega)]
  exact ⟨e, by unfold epR; rw [if_pos e]⟩

theorem ep_no {l row : List Int} {s : Int} (h : lnI l s = 0) : epE l row s = 56 ∧ epR l row s = row := by
  have e : epE l row s = 56 := if_pos h
  exact ⟨e, by unfold epR; rw [if_neg (by rw [e]; decide)]⟩

/-- One symbol more. -/
theorem Bk.yes {W w0 w1 : World} {dg cg wg : Nat} {l R0 syms : List Int} {k : Nat} {u v' : Value} {K0 K1 K2 K3 : Nat → Nat} {s : Int} (hk : k < syms.length) (hs : syms.getD k 0 = s) (hn : lnI l s ≠ 0)
    (H : Herd W w0 [(K0, td dg l), (K1, te cg l), (K2, tw wg (R0 ++ flat l (kep l (syms.take k)) ++ wb l s.toNat)), (K3, ti u (kep l (syms.take k)))]) {o : Obj} (ho : OI w1 0 v' (kep l (syms.take k) ++ [s])) (hg : Grew (w0.alloc o) w1 u v') : Bk W dg cg wg l R0 syms (k + 1) v' w1 := by
  obtain ⟨K', h⟩ := H.grow 3 rfl ho hg
  have e := (kep_succ (l := l) hk).1 (by rw [hs]; exact hn)
  rw [hs] at e
  refine ⟨K0, K1, K2, K', ?_⟩
  rw [e, flat_append, flat_one, ← List.append_assoc]
  exact h

end Go.Proofs.Ytncniahpglgkmaa

namespace Go.Proofs.Ytncniahpglgkmaa
open Go.RowKit Go.Maps
set_option maxRecDepth 20000

theorem kep_split (l syms : List Int) (i : Nat) : kep l syms = kep l (syms.take i) ++ kep l (syms.drop i) := by
  unfold kep
  rw [← List.filter_append, List.take_append_drop]

/-- The bits of all the symbols up to a place. -/
def ft (l syms : List Int) (k : Nat) : List Int := flat l (kep l (syms.take k))

theorem ft_yes {l syms : List Int} {k : Nat} (h : k < syms.length) (hn : lnI l (syms.getD k 0) ≠ 0) : ft l syms (k + 1) = ft l syms k ++ wb l (syms.getD k 0).toNat := by
  unfold ft
  rw [(kep_succ (l := l) h).1 hn, flat_append, flat_one]

theorem ft_no {l syms : List Int} {k : Nat} (h : k < syms.length) (hn : lnI l (syms.getD k 0) = 0) : ft l syms (k + 1) = ft l syms k := by
  unfold ft
  rw [(kep_succ (l := l) h).2 hn]

theorem ft_len {l syms : List Int} (hl : Lens l) (k : Nat) : (ft l syms k).length ≤ 15 * syms.length := by
  have h1 := flat_len (ks := kep l (syms.take k)) hl
  have h2 := kep_len l (syms.take k)
  rw [List.length_take] at h2
  unfold ft
  have : 15 * (kep l (syms.take k)).length ≤ 15 * syms.length := Nat.mul_le_mul_left _ (by omega)
  omega

theorem ft_put {l syms : List Int} (hl : Lens l) {k : Nat} (h : k < syms.length) (hs : syms.length ≤ 16777216) : epR l (ft l syms k) (syms.getD k 0) = ft l syms (k + 1) := by
  by_cases hz : lnI l (syms.getD k 0) = 0
  · rw [(ep_no hz).2, ft_no h hz]
  · rw [(ep_ok hz (by have := ft_len (syms := syms) hl k; omega) hl).2, ft_yes h hz]

theorem ft_read {l syms tail : List Int} (hd : dcE l = 0) (hb : Bit (ft l syms syms.length ++ tail)) {i : Nat} (hi : i < syms.length) (hn : lnI l (syms.getD i 0) ≠ 0) :
    nxE l (ft l syms syms.length ++ tail) (ft l syms i).length = 0 ∧ ((nxS l (ft l syms syms.length ++ tail) (ft l syms i).length : Nat) : Int) = syms.getD i 0 ∧ nxP l (ft l syms syms.length ++ tail) (ft l syms i).length = (ft l syms (i + 1)).length := by
  obtain ⟨h1, h2, h3⟩ := lnI_has hn
  have e : ft l syms syms.length = ft l syms i ++ (wb l (syms.getD i 0).toNat ++ flat l (kep l (syms.drop (i + 1)))) := by
    have e1 : ft l syms syms.length = ft l syms (i + 1) ++ flat l (kep l (syms.drop (i + 1))) := by
      unfold ft
      rw [List.take_of_length_le (Nat.le_refl _), kep_split l syms (i + 1), flat_append]
    rw [e1, ft_yes hi hn, List.append_assoc]
  have hdrop : (ft l syms syms.length ++ tail).drop (ft l syms i).length = wb l (syms.getD i 0).toNat ++ (flat l (kep l (syms.drop (i + 1))) ++ tail) := by
    rw [e, List.append_assoc, List.drop_left, List.append_assoc]
  obtain ⟨n1, n2, n3⟩ := nx_word hd h1 hb hdrop
  refine ⟨n1, by rw [n2]; exact h2, ?_⟩
  rw [n3, ft_yes hi hn, List.length_append, wb_len]

theorem dc11b : dcE [1, 1] = 0 := by decide +kernel

theorem madeD_shape {w w' : World} {l : List Int} {e : Ending} (h : MadeD w l e w') : ∃ p, e = .returned (.tuple #[.pointer p, .int .i64 (dcE l)]) := by
  rcases h.2 with ⟨_, rfl⟩ | ⟨h0, g, K, rfl, _, _⟩
  · exact ⟨_, rfl⟩
  · exact ⟨_, by rw [h0]⟩

theorem madeE_shape {w w' : World} {l : List Int} {e : Ending} (h : MadeE w l e w') : ∃ p c, e = .returned (.tuple #[.pointer p, .int .i64 c]) := by
  rcases h.2 with ⟨_, rfl⟩ | ⟨h0, g, K, rfl, _, _⟩
  · exact ⟨_, _, rfl⟩
  · exact ⟨_, _, rfl⟩

end Go.Proofs.Ytncniahpglgkmaa

