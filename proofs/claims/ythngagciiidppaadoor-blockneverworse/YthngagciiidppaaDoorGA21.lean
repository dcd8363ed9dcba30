import Derived.Test.YthngagciiidppaaDoorGA15
import Derived.Test.YthngagciiidppaaDoorGA20
import Derived.Test.YthngagciiidppaaDoorGA14
namespace Go.Proofs.YthngagciiidppaaDoor
open Go.RowKit Go.Maps
set_option maxRecDepth 20000
set_option linter.unusedVariables false

theorem pow_split {L a : Nat} (hL : L ≤ 60) (h : a ≤ L) : 2 ^ (60 - a) = 2 ^ (60 - L) * 2 ^ (L - a) := by
  rw [← Nat.pow_add]
  congr 1
  omega

theorem kr_limit {len : Nat → Nat} {l : List Nat} {L : Nat} (hL : L ≤ 60) (h : ∀ s ∈ l, len s ≤ L) : kr len l = 2 ^ (60 - L) * (l.map fun s => 2 ^ (L - len s)).sum := by
  induction l with
  | nil => simp [kr]
  | cons a r ih =>
    have ih' := ih fun s hs => h s (List.mem_cons_of_mem _ hs)
    unfold kr at ih' ⊢
    simp only [List.map_cons, List.sum_cons]
    rw [ih', pow_split hL (h a (by simp)), Nat.mul_add]

theorem kr_perm {len : Nat → Nat} {l l' : List Nat} (h : l.Perm l') : kr len l = kr len l' := perm_sum _ h
theorem fl_perm {f len : Nat → Nat} {l l' : List Nat} (h : l.Perm l') : fl f len l = fl f len l' := perm_sum _ h

theorem lm_facts {f : List Int} {L : Nat} (hs : Sound f) (hL : 1 ≤ L ∧ L ≤ 15) (hu : (us6 f).length ≤ 2 ^ L) (h2 : 2 ≤ (us6 f).length) : kr (lm f L) (us6 f) = 2 ^ 60 ∧ (∀ s ∈ us6 f, lm f L s ≤ L) ∧ ∀ o, (∀ s ∈ us6 f, o s ≤ L) → kr o (us6 f) ≤ 2 ^ 60 → fl (fq f) (lm f L) (us6 f) ≤ fl (fq f) o (us6 f) := by
  have hp := (srl_srt f).perm
  have key := limited_good (f := fq f) (len := lm f L) (us6 := srl f) L hL.1 (by rw [srl_len]; omega) (lws_rise hs.nn) (by rw [srl_len]; exact hu) (fun i hi => by
    have := lm_at (l := f) (L := L) h2 hi
    rw [List.getD_eq_getElem?_getD, List.getElem?_eq_getElem hi, Option.getD_some, this]
    rw [srl_len, show 2 * ((us6 f).length - 1) = 2 * (us6 f).length - 2 by omega]
    rfl)
  obtain ⟨a, b, c⟩ := key
  have hle : ∀ s ∈ us6 f, lm f L s ≤ L := fun s h => b s (srl_mem.2 h)
  have hsum : ∀ g : Nat → Nat, ((srl f).map g).sum = ((us6 f).map g).sum := fun g => perm_sum g hp
  have e60 : 2 ^ (60 - L) * 2 ^ L = 2 ^ 60 := by rw [← Nat.pow_add]; congr 1; omega
  refine ⟨?_, hle, fun o ho hk => ?_⟩
  · rw [kr_limit (by omega) hle, ← hsum, a]
    exact e60
  · rw [← fl_perm hp, ← fl_perm hp]
    refine c o (fun s h => ho s (srl_mem.1 h)) ?_
    rw [kr_limit (by omega) ho, ← e60] at hk
    rw [hsum]
    exact Nat.le_of_mul_le_mul_left hk (Nat.two_pow_pos _)

theorem lmt_get {f : List Int} {L s : Nat} (h : s < f.length) : (lmt f L).getD s 0 = (lm f L s : Int) := by
  unfold lmt
  rw [List.getD_eq_getElem?_getD, List.getElem?_map, List.getElem?_range h]
  rfl

theorem nn_lmt {f : List Int} {L s : Nat} (h : s ∈ us6 f) : nn (lmt f L) s = lm f L s := by
  unfold nn
  rw [lmt_get (mem_us.1 h).1]
  rfl

theorem lm_one {f : List Int} {L s : Nat} (h : (us6 f).length = 1) (hm : s ∈ us6 f) : lm f L s = 1 := by
  unfold lm
  rw [if_pos h, if_pos hm]

theorem gd_lmt {f : List Int} {L : Nat} (hs : Sound f) (hL : 1 ≤ L ∧ L ≤ 15) (hu : (us6 f).length ≤ 2 ^ L) : Gd f (lmt f L) L := by
  refine ⟨lmt_len f L, fun s h h0 => ?_, fun s hm => ?_, fun h s hm => by rw [lmt_get (mem_us.1 hm).1, lm_one h hm]; rfl, fun h2 => ?_⟩
  · rw [lmt_get h, lm_out (fun hm => by have := (mem_us.1 hm).2; omega)]; rfl
  · have hm' : s ∈ us6 f := hm
    have hpos := List.length_pos_of_mem hm'
    rw [lmt_get (mem_us.1 hm').1]
    by_cases h1 : (us6 f).length = 1
    · rw [lm_one h1 hm']; omega
    · obtain ⟨a, b, _⟩ := lm_facts hs hL hu (by omega)
      have h3 := kr_one a (by omega) hm'
      have h4 := b s hm'
      omega
  · rw [kr_congr (fun s h => nn_lmt h)]
    exact (lm_facts hs hL hu h2).1

/-- Nothing within Kraft's rule and the limit costs less. -/
theorem lm_best {f o : List Int} {L : Nat} (hs : Sound f) (hL : 1 ≤ L ∧ L ≤ 15) (hu : (us6 f).length ≤ 2 ^ L) (ho : LenOk f o L f.length) (hk : kr (nn o) (us6 f) ≤ 2 ^ 60) : fl (fq f) (nn (lmt f L)) (us6 f) ≤ fl (fq f) (nn o) (us6 f) := by
  rw [fl_congr (fun s h => nn_lmt h)]
  by_cases h2 : 2 ≤ (us6 f).length
  · exact (lm_facts hs hL hu h2).2.2 (nn o) (fun s h => by have := ho s h; unfold nn; omega) hk
  · refine sum_map_le fun s h => ?_
    have hpos := List.length_pos_of_mem h
    have e : lm f L s = 1 := lm_one (by omega) h
    have := ho s h
    show fq f s * lm f L s ≤ _
    rw [e]
    exact Nat.mul_le_mul_left _ (by unfold nn; omega)

theorem Sound.lmE {f : List Int} {L : Nat} (hs : Sound f) (hL : 1 ≤ L ∧ L ≤ 15) : lmE f L = (if 2 ^ L < (us6 f).length then 60 else 0) ∧ lmL f L = (if 2 ^ L < (us6 f).length then [] else lmt f L) := by
  have e : Go.Proofs.YthngagciiidppaaDoor.lmE f L = (if 2 ^ L < (us6 f).length then 60 else 0) := by
    unfold Go.Proofs.YthngagciiidppaaDoor.lmE
    rw [if_neg (by have := hs.len; omega), if_neg (by rw [bnb_iff.2 hs.ok]; decide), Int.toNat_natCast]
  refine ⟨e, ?_⟩
  unfold Go.Proofs.YthngagciiidppaaDoor.lmL
  rw [e]
  by_cases c : 2 ^ L < (us6 f).length
  · rw [if_pos c, if_pos c]; rfl
  · rw [if_neg c, if_neg c, Int.toNat_natCast]; rfl

theorem OI.blk {w : World} {base a n c} {l : List Int} (h : OI w base (.slice a n c) l) : ∀ k, (Value.slice a n c).ownBlock = some k → k < w.heap.size := fun k hk => (h.lt k hk).2

theorem limited_ok {f : List Int} {L : Nat} (hs : Sound f) (hL : 1 ≤ L ∧ L ≤ 15) (hu : (us6 f).length ≤ 2 ^ L) (v : Value) (w : World) (h : SI w v f) (hne : ∀ k, v.ownBlock = some k → k < w.heap.size) :
    Calls Tryd.prog 31 #[v, .int .i64 (L : Int)] w fun e w' => ∃ a c, e = .returned (.tuple #[.slice a f.length c, .int .i64 0]) ∧ OI w' w.heap.size (.slice a f.length c) (lmt f L) ∧ Below w.heap.size w w' := by
  have := limited_any v f L w h hne (by omega)
  obtain ⟨e1, e2⟩ := hs.lmE hL
  rw [if_neg (by omega)] at e1 e2
  rw [e1, e2, lmt_len] at this
  exact this
end Go.Proofs.YthngagciiidppaaDoor

namespace Go.Proofs.YthngagciiidppaaDoor
open Go.RowKit Go.Maps
set_option maxRecDepth 20000
set_option linter.unusedVariables false

/-- Nodes in memory: each with the slice of what it holds. -/
abbrev Mnd := Nod × Value

def fn2 (M : List Mnd) : List Value := M.flatMap fun p => [.int .i64 (p.1.1 : Int), p.2]

theorem fn2_len (M : List Mnd) : (fn2 M).length = M.length * 2 := by
  induction M with
  | nil => rfl
  | cons a r ih => unfold fn2 at ih ⊢; rw [List.flatMap_cons, List.length_append, ih]; simp; omega

def mn0 : Mnd := (nod0, undef)

theorem fn2_get {M : List Mnd} {i : Nat} (h : i < M.length) : (fn2 M)[i * 2]? = some (.int .i64 ((M.getD i mn0).1.1 : Int)) ∧ (fn2 M)[i * 2 + 1]? = some (M.getD i mn0).2 := by
  induction M generalizing i with
  | nil => simp at h
  | cons a r ih =>
    cases i with
    | zero => exact ⟨rfl, rfl⟩
    | succ i =>
      have := ih (i := i) (by simpa using h)
      have e : fn2 (a :: r) = .int .i64 (a.1.1 : Int) :: a.2 :: fn2 r := rfl
      rw [e, show (i + 1) * 2 = i * 2 + 1 + 1 by omega, show i * 2 + 1 + 1 + 1 = (i * 2 + 1) + 1 + 1 by omega]
      simp only [List.getElem?_cons_succ]
      exact this

theorem fn2_snoc (M : List Mnd) (p : Mnd) : fn2 (M ++ [p]) = fn2 M ++ [.int .i64 (p.1.1 : Int), p.2] := by simp [fn2]

theorem rown_move6 {w w' : World} {base : Nat} {e : TypeId} {size : Nat} {v : Value} {n : Nat} {xs : List Value} (h : w.ownsRow base e size v n xs) (hb : ∀ k, v.ownBlock = some k → w'.heap[k]? = w.heap[k]?) : w'.ownsRow base e size v n xs := by
  refine ⟨h.1, ?_⟩
  rcases h.2 with h2 | ⟨g, cap, cur, rfl, h1, h2, r⟩
  · exact .inl h2
  · exact .inr ⟨g, cap, cur, rfl, h1, (hb g rfl).trans h2, r⟩

theorem md_mem {M : List Mnd} {i : Nat} (h : i < M.length) : M.getD i mn0 ∈ M := by
  rw [show M.getD i mn0 = M[i] by simp [h]]
  exact List.getElem_mem h

theorem OI.one {w : World} {b0 : Nat} {v : Value} {l : List Int} (h : OI w b0 v l) : v.oneCell' = true := by
  obtain ⟨a, c, rfl⟩ := h.shape
  rfl

theorem OI.al {w : World} {base : Nat} {v : Value} {l : List Int} (h : OI w base v l) (o : Obj) : OI (w.alloc o) base v l := h.alloc o

end Go.Proofs.YthngagciiidppaaDoor

namespace Go.Proofs.YthngagciiidppaaDoor
open Go.RowKit Go.Maps
set_option maxRecDepth 20000
set_option linter.unusedVariables false

def mro (M : List Mnd) : List Nod := M.map (·.1)

theorem mro_len (M : List Mnd) : (mro M).length = M.length := by simp [mro]
theorem mro_get (M : List Mnd) (i : Nat) : (mro M).getD i nod0 = (M.getD i mn0).1 := by
  simp only [mro, List.getD_eq_getElem?_getD, List.getElem?_map]
  cases M[i]? <;> rfl

theorem era_skip {α : Type} {M : List α} {k i : Nat} (h : k < M.length) (hi : k ≠ i) : (M.take (k + 1)).eraseIdx i = (M.take k).eraseIdx i ++ [M[k]] := by
  rw [List.take_succ_eq_append_getElem h]
  by_cases c : i < k
  · rw [List.eraseIdx_append_of_lt_length (by simp; omega)]
  · rw [List.eraseIdx_of_length_le (by simp; omega), List.eraseIdx_of_length_le (by simp; omega)]

theorem era_at {α : Type} {M : List α} {i : Nat} (h : i < M.length) : (M.take (i + 1)).eraseIdx i = (M.take i).eraseIdx i := by
  rw [List.take_succ_eq_append_getElem h, List.eraseIdx_append_of_length_le (by simp; omega)]
  rw [show i - (M.take i).length = 0 by simp; omega]
  rw [List.eraseIdx_of_length_le (k := i) (l := M.take i) (by simp; omega)]
  simp

end Go.Proofs.YthngagciiidppaaDoor

namespace Go.Proofs.YthngagciiidppaaDoor
open Go.RowKit Go.Maps
set_option maxRecDepth 20000
set_option linter.unusedVariables false

theorem step_appI {ops : Array Oper} {o : Oper} {a : Act} {w : World} {K : Act → World → Prop} {Q : Exit → Act → World → Prop} {E : Prop} (hgd : o.guard = none) (s x : Operand)
    (ho : o.op = .call { callee := .builtin .append, args := #[s, x], argTypes := #[33, 33] }) (base : Nat) (v xv : Value) (l news : List Int) (hv : a.eval s = v) (hown : OI w base v l) (hx : a.eval x = xv) (hs : Src Tryd.prog 1 33 xv news.length (news.map (Value.int .i64)) w)
    (hb : l.length + news.length ≤ 17592186044416) (hbase : base ≤ w.heap.size)
    (h : ∀ v' w', OI w' base v' (l ++ news) → Grew w w' v v' → K (a.put o.dst v') w') :
    if Region.wanted o (yielded ops a.tmps) = true then Oper.wp Tryd.prog o a w K Q else E := by
  have hw : Region.wanted o (yielded ops a.tmps) = true := by simp [Region.wanted, hgd]
  rw [if_pos hw]
  obtain ⟨v', w', hr, h2, h3, _⟩ := run_appI w base 33 o.type v xv l news hown hs hb hbase
  unfold Oper.wp
  simp [execOp, ho, resolve, invoke, builtin, hv, hx, hr, Result.andThen]
  exact h v' w' h2 h3

end Go.Proofs.YthngagciiidppaaDoor

