import Derived.Test.YtncniahpglgkmaaG17Krf
import Derived.Test.YtncniahpglgkmaaG27Lfw
import Derived.Test.YtncniahpglgkmaaG15Jhp
import Derived.Test.YtncniahpglgkmaaG02Dsp
namespace Go.Proofs.Ytncniahpglgkmaa
open Go.RowKit Go.Maps
set_option maxRecDepth 20000
set_option linter.unusedVariables false

/-- The used symbols, by frequency, then by symbol. -/
def srl (l : List Int) : List Nat := (us6 l).mergeSort fun s t => decide (l.getD s 0 < l.getD t 0 ∨ l.getD s 0 = l.getD t 0 ∧ s ≤ t)

theorem srl_srt (l : List Int) : Srt l (us6 l) (srl l) := by
  have hp := List.mergeSort_perm (us6 l) fun s t => decide (l.getD s 0 < l.getD t 0 ∨ l.getD s 0 = l.getD t 0 ∧ s ≤ t)
  refine ⟨hp, ?_⟩
  have h := List.pairwise_mergeSort (le := fun s t => decide (l.getD s 0 < l.getD t 0 ∨ l.getD s 0 = l.getD t 0 ∧ s ≤ t)) (fun a b c h1 h2 => by simp only [decide_eq_true_eq] at *; omega) (fun a b => by simp only [Bool.or_eq_true, decide_eq_true_eq]; omega) (us6 l)
  have hn : (srl l).Nodup := hp.nodup_iff.2 (us_nodup l)
  refine (h.and hn).imp fun {a b} hab => ?_
  obtain ⟨h1, h2⟩ := hab
  simp only [decide_eq_true_eq] at h1
  unfold Lf
  omega

theorem srt_eq {l : List Int} {S T T' : List Nat} (h : Srt l S T) (h' : Srt l S T') : T = T' :=
  (h.perm.trans h'.perm.symm).eq_of_pairwise (le := Lf l) (fun a b _ _ h1 h2 => by unfold Lf at h1 h2; omega) h.rise h'.rise

theorem srl_len (l : List Int) : (srl l).length = (us6 l).length := (srl_srt l).perm.length_eq
theorem srl_mem {l : List Int} {s : Nat} : s ∈ srl l ↔ s ∈ us6 l := (srl_srt l).perm.mem_iff
theorem srl_nodup (l : List Int) : (srl l).Nodup := (srl_srt l).perm.nodup_iff.2 (us_nodup l)

/-- The weights of the leaves. -/
def lws (l : List Int) : List Nat := (srl l).map (fq l)

theorem lws_len (l : List Int) : (lws l).length = (us6 l).length := by simp [lws, srl_len]

theorem lws_rise {l : List Int} (h : ∀ i, 0 ≤ l.getD i 0) : Rise (lws l) := by
  unfold lws Rise
  rw [List.pairwise_map]
  refine (srl_srt l).rise.imp fun {a b} hab => ?_
  unfold Lf at hab
  have := h a
  have := h b
  unfold fq
  omega

/-- Limited's length of a symbol. -/
def lm (l : List Int) (L s : Nat) : Nat := if (us6 l).length = 1 then (if s ∈ us6 l then 1 else 0) else if s ∈ us6 l then ct (sel (lws l) L (2 * (us6 l).length - 2)) ((srl l).idxOf s) else 0

def lmt (l : List Int) (L : Nat) : List Int := (List.range l.length).map fun s => (lm l L s : Int)

def lmE (l : List Int) (lim : Int) : Int := if 288 < l.length ∨ lim < 1 ∨ 15 < lim then 1 else if bnb l 4294967296 = false then 61 else if 2 ^ lim.toNat < (us6 l).length then 60 else 0
def lmL (l : List Int) (lim : Int) : List Int := if lmE l lim = 0 then lmt l lim.toNat else []

theorem lmt_len (l : List Int) (L : Nat) : (lmt l L).length = l.length := by simp [lmt]

theorem lm_out {l : List Int} {L s : Nat} (h : s ∉ us6 l) : lm l L s = 0 := by
  unfold lm
  rw [if_neg h, if_neg h]
  split <;> rfl

theorem lmt_spr (l : List Int) (L : Nat) : spr l.length (srl l) (fun s => (lm l L s : Int)) = lmt l L := by
  unfold spr lmt
  refine List.map_congr_left fun s _ => ?_
  by_cases h : s ∈ srl l
  · rw [if_pos h]
  · rw [if_neg h, lm_out (fun q => h (srl_mem.2 q))]; rfl

theorem lmt_few {l : List Int} {L : Nat} (h : (us6 l).length < 2) : spr l.length (us6 l) (fun _ => 1) = lmt l L := by
  unfold spr lmt
  refine List.map_congr_left fun s _ => ?_
  by_cases hs : s ∈ us6 l
  · have h1 : (us6 l).length = 1 := by have := List.length_pos_of_mem hs; omega
    rw [if_pos hs]
    unfold lm
    rw [if_pos h1, if_pos hs]
    rfl
  · rw [if_neg hs, lm_out hs]; rfl

theorem lm_at {l : List Int} {L i : Nat} (h2 : 2 ≤ (us6 l).length) (hi : i < (srl l).length) : lm l L ((srl l)[i]) = ct (sel (lws l) L (2 * (us6 l).length - 2)) i := by
  unfold lm
  rw [if_neg (by omega), if_pos (srl_mem.1 (List.getElem_mem hi)), (srl_nodup l).idxOf_getElem i hi]

theorem lm_pack {l : List Int} {L : Nat} (h2 : 2 ≤ (us6 l).length) : hls (us6 l).length (ct (sel (lws l) L (2 * (us6 l).length - 2))) = (srl l).map fun s => (lm l L s : Int) := by
  apply List.ext_getElem
  · simp [hls, srl_len]
  · intro i h1 h3
    rw [List.length_map] at h3
    simp only [hls, List.getElem_map, List.getElem_range]
    rw [lm_at h2 h3]
end Go.Proofs.Ytncniahpglgkmaa

namespace Go.Proofs.Ytncniahpglgkmaa
open Go.RowKit Go.Maps
set_option maxRecDepth 20000
set_option linter.unusedVariables false

/-- Leaves and packages merged, each with its mark. -/
def cmr : List Nat → List Nat → List (Nat × Bool)
  | [], p => p.map (·, false)
  | a :: w, [] => (a :: w).map (·, true)
  | a :: w, b :: p => if a ≤ b then (a, true) :: cmr w (b :: p) else (b, false) :: cmr (a :: w) p
termination_by w p => w.length + p.length

theorem cmr_nil (w : List Nat) : cmr w [] = w.map (·, true) := by cases w <;> simp [cmr]

theorem cmr_fst (w p : List Nat) : (cmr w p).map (·.1) = mrg w p := by
  induction w, p using cmr.induct with
  | case1 p => simp [cmr, mrg, Function.comp_def]
  | case2 a w => simp [cmr, mrg, Function.comp_def]
  | case3 a w b p h ih => simp only [cmr, mrg, if_pos h, List.map_cons, ih]
  | case4 a w b p h ih => simp only [cmr, mrg, if_neg h, List.map_cons, ih]

theorem cmr_len (w p : List Nat) : (cmr w p).length = w.length + p.length := by
  have := congrArg List.length (cmr_fst w p)
  rw [List.length_map, mrg_len] at this
  exact this

/-- Leaves among the first m. -/
def lvs (R : List (Nat × Bool)) (m : Nat) : Nat := ((R.take m).filter (·.2)).length

theorem cmr_cnt (w p : List Nat) (m : Nat) : lvs (cmr w p) m = cnt w p m := by
  induction w, p using cmr.induct generalizing m with
  | case1 p =>
    have e : ∀ (p : List Nat) (m : Nat), lvs (p.map (·, false)) m = 0 := fun p m => by
      unfold lvs
      rw [List.length_eq_zero_iff, List.filter_eq_nil_iff]
      intro x hx
      have := List.mem_of_mem_take hx
      obtain ⟨y, _, rfl⟩ := List.mem_map.1 this
      simp
    simp only [cmr, e]
    cases m <;> simp [cnt]
  | case2 a w =>
    have e : ∀ (w : List Nat) (m : Nat), lvs (w.map (·, true)) m = cnt w [] m := fun w => by
      induction w with
      | nil => intro m; cases m <;> simp [lvs, cnt]
      | cons a w ih =>
        intro m
        cases m with
        | zero => simp [lvs, cnt]
        | succ m =>
          have := ih m
          simp only [lvs, List.map_cons, List.take_succ_cons, cnt] at this ⊢
          rw [List.filter_cons_of_pos rfl, List.length_cons, this]
    simp only [cmr]
    exact e (a :: w) m
  | case3 a w b p h ih =>
    cases m with
    | zero => simp [lvs, cnt]
    | succ m =>
      have := ih m
      simp only [cmr, if_pos h, lvs, List.take_succ_cons, cnt] at this ⊢
      rw [List.filter_cons_of_pos rfl, List.length_cons, this]
  | case4 a w b p h ih =>
    cases m with
    | zero => simp [lvs, cnt]
    | succ m =>
      have := ih m
      simp only [cmr, if_neg h, lvs, List.take_succ_cons, cnt] at this ⊢
      rw [List.filter_cons_of_neg (by simp), this]

/-- Coins in memory. -/
def fc (R : List (Nat × Bool)) : List Value := R.flatMap fun p => [.int .i64 (p.1 : Int), .bool p.2]

theorem fc_len (R : List (Nat × Bool)) : (fc R).length = R.length * 2 := by
  induction R with
  | nil => rfl
  | cons a r ih => unfold fc at ih ⊢; rw [List.flatMap_cons, List.length_append, ih]; simp; omega

theorem fc_get {R : List (Nat × Bool)} {i : Nat} (h : i < R.length) : (fc R)[i * 2]? = some (.int .i64 ((R.getD i (0, false)).1 : Int)) ∧ (fc R)[i * 2 + 1]? = some (.bool (R.getD i (0, false)).2) := by
  induction R generalizing i with
  | nil => simp at h
  | cons a r ih =>
    cases i with
    | zero => exact ⟨rfl, rfl⟩
    | succ i =>
      have := ih (i := i) (by simpa using h)
      have e : fc (a :: r) = .int .i64 (a.1 : Int) :: .bool a.2 :: fc r := rfl
      rw [e, show (i + 1) * 2 = i * 2 + 1 + 1 by omega, show i * 2 + 1 + 1 + 1 = (i * 2 + 1) + 1 + 1 by omega]
      simp only [List.getElem?_cons_succ]
      exact this

theorem fc_snoc (R : List (Nat × Bool)) (p : Nat × Bool) : fc (R ++ [p]) = fc R ++ [.int .i64 (p.1 : Int), .bool p.2] := by simp [fc]

def OC (w : World) (base : Nat) (v : Value) (R : List (Nat × Bool)) : Prop := w.ownsRow base 67 2 v R.length (fc R)

theorem OC.lt {w : World} {base : Nat} {v : Value} {R : List (Nat × Bool)} (h : OC w base v R) : ∀ k, v.ownBlock = some k → base ≤ k ∧ k < w.heap.size := World.ownsRow.lt h

theorem OC.move {w w' : World} {base : Nat} {v : Value} {R : List (Nat × Bool)} (h : OC w base v R) (hb : ∀ k, v.ownBlock = some k → w'.heap[k]? = w.heap[k]?) : OC w' base v R := by
  refine ⟨h.1, ?_⟩
  rcases h.2 with h2 | ⟨g, cap, cur, rfl, h1, h2, r⟩
  · exact .inl h2
  · exact .inr ⟨g, cap, cur, rfl, h1, (hb g rfl).trans h2, r⟩

theorem OC.base {w : World} {base base' : Nat} {v : Value} {R : List (Nat × Bool)} (h : OC w base v R) (hb : base' ≤ base) : OC w base' v R := by
  refine ⟨h.1, ?_⟩
  rcases h.2 with h2 | ⟨g, cap, cur, rfl, h1, r⟩
  · exact .inl h2
  · exact .inr ⟨g, cap, cur, rfl, Nat.le_trans hb h1, r⟩

theorem OC.below {w w' : World} {base B : Nat} {v : Value} {R : List (Nat × Bool)} (h : OC w base v R) (hb : Below B w w') (hB : w.heap.size ≤ B) : OC w' base v R :=
  h.move fun k hk => hb.block k (Nat.lt_of_lt_of_le (h.lt k hk).2 hB)

theorem OC.alloc {w : World} {base : Nat} {v : Value} {R : List (Nat × Bool)} (h : OC w base v R) (o : Obj) : OC (w.alloc o) base v R := h.move fun k hk => Below.heap_alloc w o k (h.lt k hk).2

theorem OC.shape {w : World} {base : Nat} {v : Value} {R : List (Nat × Bool)} (h : OC w base v R) : ∃ a c, v = .slice a R.length c ∧ R.length ≤ c ∧ c ≤ 9223372036854775807 := by
  rcases h.2 with ⟨rfl, h0⟩ | ⟨g, cap, cur, rfl, _, _, h3, h4, _⟩
  · exact ⟨none, 0, by rw [h0], by omega, by omega⟩
  · unfold maxLen at h4; exact ⟨_, _, rfl, h3, by omega⟩

theorem OC.get {w : World} {base : Nat} {v : Value} {R : List (Nat × Bool)} (h : OC w base v R) {i : Nat} (hi : i < R.length) : ∃ g c, v = .slice (some ⟨g, 0, none⟩) R.length c ∧ w.cell? ⟨g, i * 2, none⟩ = some (.int .i64 ((R.getD i (0, false)).1 : Int)) ∧ w.cell? ⟨g, i * 2 + 1, none⟩ = some (.bool (R.getD i (0, false)).2) := by
  have hc := @World.ownsRow.cells _ _ _ _ _ _ _ h
  rcases h.2 with ⟨rfl, h0⟩ | ⟨g, cap, cur, rfl, _⟩
  · omega
  · obtain ⟨g1, g2⟩ := fc_get hi
    have c1 := hc (g := g) rfl _ _ g1
    have c2 := hc (g := g) rfl _ _ g2
    rw [Addr.add_lit, Nat.zero_add] at c1 c2
    exact ⟨g, cap, rfl, c1, c2⟩

theorem infoCoin : (Try.prog.info? 67).map (fun i => (i.zero, i.size, i.bytes)) = some (some (.agg #[.int .i64 0, .bool false]), 2, 16) := by kernel_rfl

/-- One more coin behind an owned row. -/
theorem wpCoin {w : World} {ops : Array Oper} {rest : List Oper} {o : Oper} {a : Act} {Q : Exit → Act → World → Prop} (hgd : o.guard = none) (s x : Operand)
    (ho : o.op = .call { callee := .builtin .append, args := #[s, x], argTypes := #[64, 64] }) (base : Nat) (v : Value) (R : List (Nat × Bool)) (x1 : Nat) (X1 : Int) (b1 : Bool) (hX1 : X1 = (x1 : Int)) (hs : a.eval s = v) (hown : OC w base v R)
    (c : Nat) (hx : a.eval x = .slice (some ⟨w.heap.size, 0, none⟩) 1 c) (hn : R.length ≤ 1000000) (hbase : base ≤ w.heap.size)
    (h : ∀ v' w', OC w' base v' (R ++ [(x1, b1)]) → (w.alloc (.cells #[.int .i64 X1, .bool b1] 67)).grownBy w' v.ownBlock → wpList Try.prog ops Q rest (a.put o.dst v') w') :
    wpList Try.prog ops Q (o :: rest) a (w.alloc (.cells #[.int .i64 X1, .bool b1] 67)) := by
  obtain ⟨i0, hi0, hz0, hz1, hz2⟩ := info_parts infoCoin
  subst hX1
  refine wpList_append_own_at _ hgd s x 64 ho base 67 i0 _ 2 16 Try.underlying64 hi0 hz0 hz1 hz2 rfl (by omega) v R.length (fc R) hs (hown.alloc _) ⟨w.heap.size, 0, none⟩ 1 c [.int .i64 (x1 : Int), .bool b1] hx rfl (World.news_of_block (cs := #[.int .i64 (x1 : Int), .bool b1]) (t := 67) (fr := (0, 0)) (heap_alloc_new w _))
    (fun u hu => by
      rcases List.mem_cons.1 hu with rfl | hu
      · rfl
      · rw [List.mem_singleton.1 hu]; rfl) (by unfold maxLen; omega) (by omega) (by simp; omega) fun v' w' h1 h2 _ _ => h v' w' ?_ h2
  unfold OC
  rw [fc_snoc, List.length_append]
  exact h1

/-- A slice without its first. -/
theorem SI.tail {w : World} {b o n cap : Nat} {x : Int} {r : List Int} (h : SI w (.slice (some ⟨b, o, none⟩) n cap) (x :: r)) : SI w (.slice (some ⟨b, o + 1, none⟩) (n - 1) (cap - 1)) r := by
  obtain ⟨ao, c', he, h1, h2, h3, h4⟩ := h
  simp only [Value.slice.injEq] at he
  obtain ⟨rfl, rfl, rfl⟩ := he
  refine ⟨some ⟨b, o + 1, none⟩, cap - 1, by simp, by simp at h1; omega, by omega, (fun e => by cases e), fun y hy i hi => ?_⟩
  cases hy
  have := h4 _ rfl (i + 1) (by simp; omega)
  rw [Addr.add_lit] at this ⊢
  rw [show o + 1 + i = o + (i + 1) by omega, this]
  simp

theorem SI.tail' {w : World} {b o n cap : Nat} {x : Int} {r : List Int} (h : SI w (.slice (some ⟨b, o, none⟩) n cap) (x :: r)) : SI w (.slice (if cap = 1 then some ⟨b, o, none⟩ else some ⟨b, o + 1, none⟩) (n - 1) (cap - 1)) r := by
  by_cases c : cap = 1
  · rw [if_pos c]
    obtain ⟨ao, c', he, h1, h2, h3, h4⟩ := h
    simp only [Value.slice.injEq] at he
    obtain ⟨rfl, rfl, rfl⟩ := he
    have hr : r = [] := by
      simp at h1
      exact List.eq_nil_of_length_eq_zero (by omega)
    subst hr
    exact ⟨_, _, rfl, by simp, by omega, (fun e => by cases e), fun y hy i hi => by simp at hi⟩
  · rw [if_neg c]
    exact h.tail

theorem SI.nil' {w : World} (a : Addr) (cap : Nat) (hc : cap ≤ maxLen) : SI w (.slice (some a) 0 cap) [] := ⟨some a, cap, rfl, Nat.zero_le _, hc, (fun e => by cases e), fun x hx i hi => by simp at hi⟩
end Go.Proofs.Ytncniahpglgkmaa

