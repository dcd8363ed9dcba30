import Derived.Test.YtfdhffcdkmklbaaDoorG16Nde
import Derived.Test.YtfdhffcdkmklbaaDoorG05Pks
namespace Go.Proofs.YtfdhffcdkmklbaaDoor
open Go.RowKit Go.Maps
set_option maxRecDepth 20000
set_option linter.unusedVariables false

def mro (M : List Mnd) : List Nod := M.map (·.1)

theorem mro_len (M : List Mnd) : (mro M).length = M.length := by simp [mro]
theorem mro_get (M : List Mnd) (i : Nat) : (mro M).getD i nod0 = (M.getD i mn0).1 := by
  simp only [mro, List.getD_eq_getElem?_getD, List.getElem?_map]
  cases M[i]? <;> rfl

theorem era_skip {α : Type} {M : List α} {k i : Nat} (h : k < M.length) (hi : k ≠ i) : (M.take (k + 1)).eraseIdx i = (M.take k).eraseIdx i ++ [M[k]] := by
  rw [List.take_succ_eq_append_getElem h]
  by_cases c : i < k
  · rw [List.eraseIdx_append_of_lt_length (by simp; omega)]
  · rw [List.eraseIdx_of_length_le (by simp; omega), List.eraseIdx_of_length_le (by simp; omega)]

theorem era_at {α : Type} {M : List α} {i : Nat} (h : i < M.length) : (M.take (i + 1)).eraseIdx i = (M.take i).eraseIdx i := by
  rw [List.take_succ_eq_append_getElem h, List.eraseIdx_append_of_length_le (by simp; omega)]
  rw [show i - (M.take i).length = 0 by simp; omega]
  rw [List.eraseIdx_of_length_le (k := i) (l := M.take i) (by simp; omega)]
  simp

end Go.Proofs.YtfdhffcdkmklbaaDoor

namespace Go.Proofs.YtfdhffcdkmklbaaDoor
open Go.RowKit Go.Maps
set_option maxRecDepth 20000
set_option linter.unusedVariables false

theorem step_appI {ops : Array Oper} {o : Oper} {a : Act} {w : World} {K : Act → World → Prop} {Q : Exit → Act → World → Prop} {E : Prop} (hgd : o.guard = none) (s x : Operand)
    (ho : o.op = .call { callee := .builtin .append, args := #[s, x], argTypes := #[40, 40] }) (base : Nat) (v xv : Value) (l news : List Int) (hv : a.eval s = v) (hown : OI w base v l) (hx : a.eval x = xv) (hs : Src Tryd.prog 1 40 xv news.length (news.map (Value.int .i64)) w)
    (hb : l.length + news.length ≤ 17592186044416) (hbase : base ≤ w.heap.size)
    (h : ∀ v' w', OI w' base v' (l ++ news) → Grew w w' v v' → K (a.put o.dst v') w') :
    if Region.wanted o (yielded ops a.tmps) = true then Oper.wp Tryd.prog o a w K Q else E := by
  have hw : Region.wanted o (yielded ops a.tmps) = true := by simp [Region.wanted, hgd]
  rw [if_pos hw]
  obtain ⟨v', w', hr, h2, h3, _⟩ := run_appI w base 40 o.type v xv l news hown hs hb hbase
  unfold Oper.wp
  simp [execOp, ho, resolve, invoke, builtin, hv, hx, hr, Result.andThen]
  exact h v' w' h2 h3

end Go.Proofs.YtfdhffcdkmklbaaDoor

namespace Go.Proofs.YtfdhffcdkmklbaaDoor
open Go.RowKit Go.Maps
set_option maxRecDepth 20000
set_option linter.unusedVariables false

theorem two_perm {R : List Nod} (h2 : 2 ≤ R.length) : R.Perm (fir R :: fir (wo R) :: wo (wo R)) := by
  have h1 : 0 < R.length := by omega
  have h3 : 0 < (wo R).length := by rw [wo_len h1]; omega
  have p1 : R.Perm (fir R :: wo R) := erase_perm (lgt_lt h1)
  have p2 : (wo R).Perm (fir (wo R) :: wo (wo R)) := erase_perm (lgt_lt h3)
  exact p1.trans ((List.perm_cons _).2 p2)

theorem hst_syms {R : List Nod} (h2 : 2 ≤ R.length) : (syms R).Perm ((hjn R).2 ++ syms (wo (wo R))) := by
  have := syms_perm (two_perm h2)
  unfold syms at this ⊢
  simp only [List.flatMap_cons] at this
  rw [← List.append_assoc] at this
  exact this

theorem hst_syms2 {R : List Nod} (h2 : 2 ≤ R.length) : (syms R).Perm (syms (hst R)) := by
  refine (hst_syms h2).trans ?_
  unfold hst syms
  rw [List.flatMap_append]
  simp only [List.flatMap_cons, List.flatMap_nil, List.append_nil]
  exact List.perm_append_comm

/-- What holds of the row and of the lengths all along. -/
structure Nst (n : Nat) (R : List Nod) (len : Nat → Nat) : Prop where
  nd : (syms R).Nodup
  lt : ∀ s ∈ syms R, s < n
  sm : (R.map (·.1)).sum ≤ 1236950581248
  ln : ∀ s, len s + R.length ≤ 289

theorem Nst.hold {n : Nat} {R : List Nod} {len : Nat → Nat} (h : Nst n R len) (h2 : 2 ≤ R.length) :
    (hjn R).2.Nodup ∧ (∀ s ∈ (hjn R).2, s < n) ∧ (hjn R).2.length ≤ n ∧ (fir R).1 + (fir (wo R)).1 ≤ 1236950581248 := by
  have hp := hst_syms h2
  have h3 := (hp.nodup_iff.1 h.nd)
  have h4 : (hjn R).2.Nodup := (List.nodup_append.1 h3).1
  have h5 : ∀ s ∈ (hjn R).2, s < n := fun s hs => h.lt s (hp.symm.subset (by simp [hs]))
  refine ⟨h4, h5, ?_, ?_⟩
  · have := h4.length_le_of_subset (l₂ := List.range n) (fun s hs => List.mem_range.2 (h5 s hs))
    rwa [List.length_range] at this
  · have := ((two_perm h2).map (·.1)).sum_nat
    have hs := h.sm
    rw [this] at hs
    simp only [List.map_cons, List.sum_cons] at hs
    omega

theorem Nst.next {n : Nat} {R : List Nod} {len : Nat → Nat} (h : Nst n R len) (h2 : 2 ≤ R.length) : Nst n (hst R) (bmp len (hjn R).2) := by
  refine ⟨(hst_syms2 h2).nodup_iff.1 h.nd, fun s hs => h.lt s ((hst_syms2 h2).symm.subset hs), ?_, fun s => ?_⟩
  · have := ((two_perm h2).map (·.1)).sum_nat
    have hs := h.sm
    rw [this] at hs
    simp only [List.map_cons, List.sum_cons] at hs
    unfold hst hjn
    rw [List.map_append, List.sum_append]
    simp only [List.map_cons, List.sum_cons, List.map_nil, List.sum_nil]
    omega
  · have := h.ln s
    rw [hst_len h2]
    unfold bmp
    split <;> omega

theorem hrun_next {R : List Nod} (h2 : 2 ≤ R.length) (len : Nat → Nat) : hrun (R.length - 1) R len = hrun ((hst R).length - 1) (hst R) (bmp len (hjn R).2) := by
  obtain ⟨m, hm⟩ : ∃ m, R.length - 1 = m + 1 := ⟨R.length - 2, by omega⟩
  rw [hst_len h2, hm]
  rfl

/-- One more for the first k of a list. -/
theorem bmp_step {len : Nat → Nat} {S : List Nat} (hn : S.Nodup) {k n : Nat} (hk : k < S.length) (hlt : S.getD k 0 < n) :
    bmp len (S.take k) (S.getD k 0) = len (S.getD k 0) ∧ (hls n (bmp len (S.take k))).set (S.getD k 0) ((len (S.getD k 0) : Int) + 1) = hls n (bmp len (S.take (k + 1))) := by
  have e : S.getD k 0 = S[k] := by simp [hk]
  have hnot : S[k] ∉ S.take k := by
    intro hm
    rw [← List.take_append_drop k S, List.drop_eq_getElem_cons hk] at hn
    exact (List.nodup_append.1 hn).2.2 _ hm _ (List.mem_cons_self) rfl
  refine ⟨by rw [e]; exact bmp_out hnot, ?_⟩
  apply List.ext_getElem
  · rw [List.length_set, hls_len, hls_len]
  · intro i h1 h3
    rw [hls_len] at h3
    rw [List.getElem_set]
    have hel : ∀ (H : Nat → Nat) (h : i < (hls n H).length), (hls n H)[i] = (H i : Int) := fun H h => by simp [hls]
    rw [hel, hel, List.take_succ_eq_append_getElem hk]
    split
    · rename_i he
      rw [← he, e, bmp_in (List.mem_append_right _ (List.mem_singleton.2 rfl))]
      simp
    · rename_i he
      congr 1
      unfold bmp
      have : (i ∈ S.take k ++ [S[k]]) ↔ i ∈ S.take k := by
        rw [List.mem_append, List.mem_singleton]
        constructor
        · rintro (h | h)
          · exact h
          · rw [h, ← e] at he; exact absurd rfl he
        · exact .inl
      simp only [this]

def slen : Value → Nat
  | .slice _ n _ => n
  | _ => 0

theorem leafs_snoc (f : Nat → Nat) (S : List Nat) (s : Nat) : leafs f (S ++ [s]) = leafs f S ++ [(f s, [s])] := by simp [leafs]

theorem Nst.first {l : List Int} (h : bnd l 4294967296 l.length) (hl : l.length ≤ 288) : Nst l.length (leafs (fq l) (us6 l)) (fun _ => 0) := by
  refine ⟨by rw [syms_leafs]; exact us_nodup l, fun s hs => (mem_us.1 (by rwa [syms_leafs] at hs)).1, ?_, fun s => by rw [leafs_len]; have := us_le6 (l := l); omega⟩
  have := tot_le h hl
  unfold leafs
  rw [List.map_map]
  exact this
end Go.Proofs.YtfdhffcdkmklbaaDoor

namespace Go.Proofs.YtfdhffcdkmklbaaDoor
open Go.RowKit Go.Maps
set_option maxRecDepth 20000
set_option linter.unusedVariables false
set_option linter.unusedSimpArgs false

theorem OI.shp {w : World} {base : Nat} {v : Value} {l : List Int} (h : OI w base v l) : ∃ a n c, v = .slice a n c := by
  obtain ⟨a, c, rfl⟩ := h.shape
  exact ⟨_, _, _, rfl⟩

theorem one_oi (W : World) (x : Int) : OI (W.alloc (.cells #[.int .i64 x] 3)) 0 (.slice (some ⟨W.heap.size, 0, none⟩) 1 1) [x] := by
  have := OI.of_full (w := W.alloc (.cells #[.int .i64 x] 3)) (base := 0) (g := W.heap.size) (l := [x]) (heap_alloc_new W _) (Nat.zero_le _) (by unfold maxLen; simp)
  exact this

theorem bmp_none (len : Nat → Nat) (S : List Nat) : bmp len (S.take 0) = len := by
  funext s
  simp [bmp]

end Go.Proofs.YtfdhffcdkmklbaaDoor

namespace Go.Proofs.YtfdhffcdkmklbaaDoor
open Go.RowKit Go.Maps
set_option maxRecDepth 20000
set_option linter.unusedVariables false
set_option linter.unusedSimpArgs false

def mmg : List Mnd → List Mnd → List Mnd
  | [], p => p
  | a :: w, [] => a :: w
  | a :: w, b :: p => if a.1.1 ≤ b.1.1 then a :: mmg w (b :: p) else b :: mmg (a :: w) p
termination_by w p => w.length + p.length

theorem mmg_row (A B : List Mnd) : mro (mmg A B) = nmg (mro A) (mro B) := by
  induction A, B using mmg.induct with
  | case1 p => simp [mmg, nmg, mro]
  | case2 a w => simp [mmg, nmg, mro]
  | case3 a w b p h ih =>
    have e : mro (a :: w) = a.1 :: mro w := rfl
    have e2 : mro (b :: p) = b.1 :: mro p := rfl
    rw [mmg, if_pos h, e, e2, nmg, if_pos h, ← e2, ← ih]
    rfl
  | case4 a w b p h ih =>
    have e : mro (a :: w) = a.1 :: mro w := rfl
    have e2 : mro (b :: p) = b.1 :: mro p := rfl
    rw [mmg, if_neg h, e, e2, nmg, if_neg h, ← e, ← ih]
    rfl

theorem mmg_nil (A : List Mnd) : mmg A [] = A := by cases A <;> simp [mmg]

theorem mmg_len (A B : List Mnd) : (mmg A B).length = A.length + B.length := by
  induction A, B using mmg.induct with
  | case1 p => simp [mmg]
  | case2 a w => simp [mmg]
  | case3 a w b p h ih => rw [mmg, if_pos h]; simp only [List.length_cons] at ih ⊢; omega
  | case4 a w b p h ih => rw [mmg, if_neg h]; simp only [List.length_cons] at ih ⊢; omega

theorem mmg_mem {A B : List Mnd} {p : Mnd} (h : p ∈ mmg A B) : p ∈ A ∨ p ∈ B := by
  induction A, B using mmg.induct with
  | case1 q => rw [mmg] at h; exact .inr h
  | case2 a w => rw [mmg] at h; exact .inl h
  | case3 a w b q c ih =>
    rw [mmg, if_pos c] at h
    rcases List.mem_cons.1 h with h | h
    · exact .inl (List.mem_cons.2 (.inl h))
    · rcases ih h with h | h
      · exact .inl (List.mem_cons_of_mem _ h)
      · exact .inr h
  | case4 a w b q c ih =>
    rw [mmg, if_neg c] at h
    rcases List.mem_cons.1 h with h | h
    · exact .inr (List.mem_cons.2 (.inl h))
    · rcases ih h with h | h
      · exact .inl h
      · exact .inr (List.mem_cons_of_mem _ h)

theorem mdrop {A : List Mnd} {i : Nat} (h : i < A.length) : A.drop i = A.getD i mn0 :: A.drop (i + 1) := by
  rw [List.drop_eq_getElem_cons h]
  simp [h]

theorem mmg_a {A B : List Mnd} {i j : Nat} (hi : i < A.length) (h : B.length ≤ j ∨ (A.getD i mn0).1.1 ≤ (B.getD j mn0).1.1) : mmg (A.drop i) (B.drop j) = A.getD i mn0 :: mmg (A.drop (i + 1)) (B.drop j) := by
  rw [mdrop hi]
  by_cases hj : j < B.length
  · rw [mdrop hj, mmg, if_pos (h.resolve_left (by omega))]
  · rw [List.drop_of_length_le (l := B) (by omega), mmg_nil, mmg_nil]

theorem mmg_b {A B : List Mnd} {i j : Nat} (hj : j < B.length) (h : A.length ≤ i ∨ (B.getD j mn0).1.1 < (A.getD i mn0).1.1) : mmg (A.drop i) (B.drop j) = B.getD j mn0 :: mmg (A.drop i) (B.drop (j + 1)) := by
  rw [mdrop hj]
  by_cases hi : i < A.length
  · rw [mdrop hi, mmg, if_neg (by have := h.resolve_left (by omega); omega)]
  · rw [List.drop_of_length_le (l := A) (by omega), mmg, mmg]

end Go.Proofs.YtfdhffcdkmklbaaDoor

namespace Go.Proofs.YtfdhffcdkmklbaaDoor
open Go.RowKit Go.Maps
set_option maxRecDepth 20000
set_option linter.unusedVariables false
set_option linter.unusedSimpArgs false

def Abv (B : Nat) (M : List Mnd) : Prop := ∀ p ∈ M, ∀ k, p.2.ownBlock = some k → B ≤ k

theorem ndrop {R : List Nod} {i : Nat} (h : i < R.length) : R.drop i = R.getD i nod0 :: R.drop (i + 1) := by
  rw [List.drop_eq_getElem_cons h]
  simp [h]

theorem npk_step {R : List Nod} {i : Nat} (h : i + 1 < R.length) : npk (R.drop i) = ((R.getD i nod0).1 + (R.getD (i + 1) nod0).1, (R.getD i nod0).2 ++ (R.getD (i + 1) nod0).2) :: npk (R.drop (i + 2)) := by
  rw [ndrop (by omega : i < R.length), ndrop h, npk]

theorem npk_end {R : List Nod} {i : Nat} (h : R.length ≤ i + 1) : npk (R.drop i) = [] := by
  by_cases c : i < R.length
  · rw [ndrop c, List.drop_of_length_le (by omega), npk]
    simp
  · rw [List.drop_of_length_le (by omega), npk]
    simp

theorem two_le {R : List Nod} {i : Nat} (h : i + 1 < R.length) : (R.getD i nod0).1 + (R.getD (i + 1) nod0).1 ≤ (R.map (·.1)).sum ∧ (R.getD i nod0).2.length + (R.getD (i + 1) nod0).2.length ≤ (syms R).length := by
  have e : R = R.take i ++ (R.getD i nod0 :: R.getD (i + 1) nod0 :: R.drop (i + 2)) := by
    rw [← ndrop h, ← ndrop (by omega : i < R.length), List.take_append_drop]
  constructor
  · conv => rhs; rw [e]
    simp only [List.map_append, List.map_cons, List.sum_append, List.sum_cons]
    omega
  · conv => rhs; rw [e]
    simp only [syms, List.flatMap_append, List.flatMap_cons, List.length_append]
    omega

end Go.Proofs.YtfdhffcdkmklbaaDoor

