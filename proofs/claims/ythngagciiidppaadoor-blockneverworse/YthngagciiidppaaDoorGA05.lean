import Derived.Test.YthngagciiidppaaDoorGA03
import Derived.Test.YthngagciiidppaaDoorGA04
import Derived.Test.YthngagciiidppaaDoorGA01
import Derived.Laws.CopyRow
import Derived.Laws.MakeOwn
namespace Go.Proofs.YthngagciiidppaaDoor
open Go.RowKit
set_option maxRecDepth 20000
set_option linter.unusedVariables false

theorem wrap_small {n : Nat} (h : n ≤ 1000000) : wrap64 (n : Int) = (n : Int) := by unfold wrap64; omega

theorem wrapu_small {n : Nat} (h : n ≤ 1000000) : IntKind.u64.wrap (n : Int) = (n : Int) := by rw [IntKind.wrap_u64]; omega

theorem wrap_add {a b : Nat} (h : a + b ≤ 1000000) : wrap64 ((a : Int) + (b : Int)) = (a : Int) + (b : Int) := by unfold wrap64; omega

theorem lsy_step {x i j : Nat} (h : Lsy x i) (hx : x < 258) (hj : j ≤ i) : i ≤ 27 ∧ (j < i → LB j + 2 ^ LF j ≤ x) ∧ (j = i → x < LB j + 2 ^ LF j) := by
  obtain ⟨h1, h2, h3⟩ := h
  have hi : i ≤ 27 := by
    by_cases e : i = 28
    · subst e
      have : LB 28 = 258 := by decide
      omega
    · omega
  refine ⟨hi, fun hlt => ?_, fun e => ?_⟩
  · rw [← lbNext j (by omega)]
    by_cases e : j + 1 = i
    · rw [e]; exact h2
    · have := lb_up (j + 1) i (by omega) (by omega) (by omega)
      omega
  · subst e
    by_cases e : j = 27
    · subst e
      have : LB 27 + 2 ^ LF 27 = 259 := by decide
      omega
    · rw [← lbNext j (by omega)]
      exact h3 (j + 1) (by omega) (by omega)

theorem dsy_step {x i j : Nat} (h : Dsy x i) (hx : x ≤ 32768) (hj : j ≤ i) : (j < i → DB (j + 1) ≤ x) ∧ (j = i → x < DB (j + 1)) := by
  obtain ⟨h1, h2, h3⟩ := h
  refine ⟨fun hlt => ?_, fun e => ?_⟩
  · by_cases e : j + 1 = i
    · rw [e]; exact h2
    · have := db_up (j + 1) i (by omega) (by omega) (by omega)
      omega
  · subst e
    by_cases e : j = 29
    · subst e
      have : DB (29 + 1) = 32769 := by decide
      omega
    · exact h3 (j + 1) (by omega) (by omega)

end Go.Proofs.YthngagciiidppaaDoor

namespace Go.Proofs.YthngagciiidppaaDoor
open Go.RowKit Go.Maps
set_option maxRecDepth 20000
set_option linter.unusedVariables false

/-- The two lists of counts. -/
structure Cx (w : World) (B g1 g2 : Nat) (l d : List Int) : Prop where
  lit : OI w B (.slice (some ⟨g1, 0, none⟩) 286 286) l
  dist : OI w B (.slice (some ⟨g2, 0, none⟩) 30 30) d
  ll : l.length = 286
  dl : d.length = 30
  ne : g1 ≠ g2
  up : B ≤ g1 ∧ B ≤ g2

theorem Cx.low {w w' : World} {B g1 g2 : Nat} {l d : List Int} (h : Cx w B g1 g2 l d) (hb : Below w.heap.size w w') : Cx w' B g1 g2 l d :=
  ⟨h.lit.move fun k hk => hb.block k (h.lit.lt k hk).2, h.dist.move fun k hk => hb.block k (h.dist.lt k hk).2, h.ll, h.dl, h.ne, h.up⟩

theorem Cx.atl {w : World} {B g1 g2 : Nat} {l d : List Int} (h : Cx w B g1 g2 l d) {i : Nat} (hi : i < 286) : w.cell? ⟨g1, i, none⟩ = some (.int .i64 (l.getD i 0)) ∧ w.frozen? ⟨g1, i, none⟩ = false := by
  have hl : i < l.length := by rw [h.ll]; exact hi
  obtain ⟨g', c', e, ⟨u, hu⟩, hf, _⟩ := h.lit.put hl 0
  simp only [Value.slice.injEq, Option.some.injEq, Addr.mk.injEq] at e
  obtain ⟨⟨rfl, -⟩, -⟩ := e
  exact ⟨h.lit.get rfl hl, hf⟩

theorem Cx.atd {w : World} {B g1 g2 : Nat} {l d : List Int} (h : Cx w B g1 g2 l d) {i : Nat} (hi : i < 30) : w.cell? ⟨g2, i, none⟩ = some (.int .i64 (d.getD i 0)) ∧ w.frozen? ⟨g2, i, none⟩ = false := by
  have hl : i < d.length := by rw [h.dl]; exact hi
  obtain ⟨g', c', e, ⟨u, hu⟩, hf, _⟩ := h.dist.put hl 0
  simp only [Value.slice.injEq, Option.some.injEq, Addr.mk.injEq] at e
  obtain ⟨⟨rfl, -⟩, -⟩ := e
  exact ⟨h.dist.get rfl hl, hf⟩

theorem Cx.putl {w : World} {B g1 g2 : Nat} {l d : List Int} (h : Cx w B g1 g2 l d) {i : Nat} (hi : i < 286) (x : Int) : Cx (w.setCell ⟨g1, i, none⟩ (.int .i64 x)) B g1 g2 (l.set i x) d := by
  have hl : i < l.length := by rw [h.ll]; exact hi
  obtain ⟨g', c', e, _, _, ho⟩ := h.lit.put hl x
  simp only [Value.slice.injEq, Option.some.injEq, Addr.mk.injEq] at e
  obtain ⟨⟨rfl, -⟩, -⟩ := e
  refine ⟨ho, h.dist.move fun k hk => ?_, by simp [h.ll], h.dl, h.ne, h.up⟩
  simp [Value.ownBlock] at hk
  subst hk
  exact setCell_others _ _ _ _ _ (fun e => h.ne e.symm)

theorem Cx.putd {w : World} {B g1 g2 : Nat} {l d : List Int} (h : Cx w B g1 g2 l d) {i : Nat} (hi : i < 30) (x : Int) : Cx (w.setCell ⟨g2, i, none⟩ (.int .i64 x)) B g1 g2 l (d.set i x) := by
  have hl : i < d.length := by rw [h.dl]; exact hi
  obtain ⟨g', c', e, _, _, ho⟩ := h.dist.put hl x
  simp only [Value.slice.injEq, Option.some.injEq, Addr.mk.injEq] at e
  obtain ⟨⟨rfl, -⟩, -⟩ := e
  refine ⟨h.lit.move fun k hk => ?_, ho, h.ll, by simp [h.dl], h.ne, h.up⟩
  simp [Value.ownBlock] at hk
  subst hk
  exact setCell_others _ _ _ _ _ h.ne

/-- What Count answers: the error and the two lists. -/
noncomputable def ctE (R : List Tk) : Int := if 16777216 < R.length then 1 else if asnd R then 0 else 100
noncomputable def ctL (R : List Tk) : List Int := if ctE R = 0 then (cls (List.replicate 286 0) R).set 256 1 else []
noncomputable def ctD (R : List Tk) : List Int := if ctE R = 0 then cdt (List.replicate 30 0) R else []

/-- An answer of Count in memory. -/
def Cta (B : Nat) (R : List Tk) (e : Ending) (w w' : World) : Prop :=
  ∃ vl vd, e = .returned (.tuple #[vl, vd, .int .i64 (ctE R)]) ∧ OI w' B vl (ctL R) ∧ OI w' B vd (ctD R) ∧ (∀ k, vl.ownBlock = some k → vd.ownBlock ≠ some k) ∧ Below B w w'

theorem oi_nil10 (w : World) (B : Nat) : OI w B (.slice none 0 0) [] := ⟨rfl, .inl ⟨rfl, rfl⟩⟩

theorem cta_no {R : List Tk} {B : Nat} {w w' : World} (hE : ctE R ≠ 0) (hb : Below B w w') : Cta B R (.returned (.tuple #[.slice none 0 0, .slice none 0 0, .int .i64 (ctE R)])) w w' := by
  have h1 : ctL R = [] := by unfold ctL; rw [if_neg hE]
  have h2 : ctD R = [] := by unfold ctD; rw [if_neg hE]
  refine ⟨_, _, rfl, by rw [h1]; exact oi_nil10 _ _, by rw [h2]; exact oi_nil10 _ _, fun k hk => by simp [Value.ownBlock] at hk, hb⟩

theorem asnd_all {R : List Tk} (h : asnd R = true) : ∀ t ∈ R, Snd t := by
  intro t ht
  have := List.all_eq_true.1 h t ht
  unfold sndb at this
  exact of_decide_eq_true this

end Go.Proofs.YthngagciiidppaaDoor

namespace Go.Proofs.YthngagciiidppaaDoor
open Go.RowKit Go.Maps
set_option maxRecDepth 20000
set_option linter.unusedVariables false

theorem bd_one : Bd ((List.replicate 286 (0 : Int)).set 256 1) 1 := fun i => by
  by_cases h : i = 256
  · subst h
    have : ((List.replicate 286 (0 : Int)).set 256 1).getD 256 0 = 1 := by rw [List.getD_eq_getElem?_getD, List.getElem?_set_self (by simp)]; rfl
    rw [this]; omega
  · have : ((List.replicate 286 (0 : Int)).set 256 1).getD i 0 = 0 := by
      rw [List.getD_eq_getElem?_getD, List.getElem?_set_ne (fun e => h e.symm), List.getElem?_replicate]; split <;> rfl
    rw [this]; omega

theorem Cx.start {w : World} {B g1 g2 : Nat} (h3 : w.heap[g1]? = some (.cells (List.replicate 286 (Value.int .i64 0)).toArray 3 (0, 0))) (h4 : w.heap[g2]? = some (.cells (List.replicate 30 (Value.int .i64 0)).toArray 3 (0, 0))) (h5 : g1 ≠ g2) (h6 : B ≤ g1 ∧ B ≤ g2) : Cx w B g1 g2 (List.replicate 286 0) (List.replicate 30 0) :=
  ⟨⟨by simp, .inr ⟨g1, 286, _, rfl, h6.1, h3, by simp, by unfold maxLen; omega, by simp, by simp⟩⟩, ⟨by simp, .inr ⟨g2, 30, _, rfl, h6.2, h4, by simp, by unfold maxLen; omega, by simp, by simp⟩⟩, by simp, by simp, h5, h6⟩

end Go.Proofs.YthngagciiidppaaDoor

namespace Go.Proofs.YthngagciiidppaaDoor
open Go.RowKit Go.Maps
set_option maxRecDepth 20000
set_option linter.unusedVariables false

theorem sk_cells {w : World} {x : Addr} {R : List Tk} (h : ∀ i, i < R.length → w.cell? (x.add (i * 3)) = some (.int .i64 (R.getD i tk0).1) ∧ w.cell? (x.add (i * 3 + 1)) = some (.int .i64 (R.getD i tk0).2.1) ∧ w.cell? (x.add (i * 3 + 2)) = some (.int .u8 (R.getD i tk0).2.2)) :
    ∀ j v, (fr3 R)[j]? = some v → w.cell? (x.add j) = some v := by
  intro j v hj
  have hl : j < (fr3 R).length := (List.getElem?_eq_some_iff.1 hj).1
  rw [fr3_len] at hl
  have hi : j / 3 < R.length := by omega
  obtain ⟨g0, g1, g2⟩ := fr3_get hi
  obtain ⟨h0, h1, h2⟩ := h (j / 3) hi
  have e : j = j / 3 * 3 ∨ j = j / 3 * 3 + 1 ∨ j = j / 3 * 3 + 2 := by omega
  rcases e with e | e | e
  · rw [e] at hj ⊢; rw [g0] at hj; rw [← hj]; exact h0
  · rw [e] at hj ⊢; rw [g1] at hj; rw [← hj]; exact h1
  · rw [e] at hj ⊢; rw [g2] at hj; rw [← hj]; exact h2

theorem run_copy_toks {P : Program} (w : World) (dT sT ty elem : TypeId) (g dCap n : Nat) (a : Addr) (sCap : Nat) (cur : Array Value) (t : TypeId) (cs : List Value)
    (hu : P.underlying dT = some (.slice elem)) (hs : (P.info? elem).map (·.size) = some 3) (hg : w.heap[g]? = some (.cells cur t (0, 0))) (hn : cs.length = n * 3)
    (hsrc : ∀ j v, cs[j]? = some v → w.cell? (a.add j) = some v) (hfit : cs.length ≤ cur.size) (h1 : ∀ v ∈ cs, v.oneCell' = true) :
    (Builtin.copy_ #[dT, sT] ty #[.slice (some ⟨g, 0, none⟩) n dCap, .slice (some a) n sCap]).run P w = .ok (goInt n) (w.setRow g (cs ++ cur.toList.drop cs.length).toArray) := by
  have hl := run_loadCells_list (P := P) w a cs hsrc
  have hst := run_storeCells_at P g 0 t cs 0 cur w hg (by simpa using hfit) h1
  have hm : Nat.min n n = n := Nat.min_self n
  rw [hn] at hl
  cases hq : P.info? elem with
  | none => simp [hq] at hs
  | some i =>
    have hi : i.size = 3 := by simpa [hq] using hs
    simp [Builtin.copy_, run_underlying hu, Builtin.lenOf, Builtin.firstCells, sizeOf, typeInfo, hq, hi, hm, hl]
    simp at hst
    rw [hst]
    simp

theorem wpList_copyK {w : World} {ops : Array Oper} {rest : List Oper} {o : Oper} {a : Act} {Q : Exit → Act → World → Prop} (hgd : o.guard = none) (d s : Operand)
    (ho : o.op = .call { callee := .builtin .copy, args := #[d, s], argTypes := #[22, 22] }) (g n dCap : Nat) (v : Value) (l : List Tk) (hd : a.eval d = .slice (some ⟨g, 0, none⟩) l.length dCap) (hs : a.eval s = v) (hsp : SK w v l)
    (cur : Array Value) (hg : w.heap[g]? = some (.cells cur 36 (0, 0))) (hc : cur.size = l.length * 3) (hn : n = l.length)
    (h : ∀ w', w'.heap[g]? = some (.cells (fr3 l).toArray 36 (0, 0)) → (∀ k, k ≠ g → w'.heap[k]? = w.heap[k]?) → w'.heap.size = w.heap.size → w'.os = w.os → w'.tape = w.tape → w'.output = w.output → wpList Tryd.prog ops Q rest (a.put o.dst (goInt n)) w') :
    wpList Tryd.prog ops Q (o :: rest) a w := by
  subst hn
  have hsz : (Tryd.prog.info? 36).map (·.size) = some 3 := by kernel_rfl
  refine wpList_plain hgd fun K hK => ?_
  obtain ⟨ao, cap, rfl, h1, h2, h3, h4⟩ := hsp
  unfold Oper.wp
  cases ao with
  | none =>
    have h0 := h3 rfl
    obtain rfl : l = [] := List.eq_nil_of_length_eq_zero (by omega)
    subst h0
    have hr : (Builtin.copy_ #[22, 22] o.type #[.slice (some ⟨g, 0, none⟩) 0 dCap, .slice none 0 0]).run Tryd.prog w = .ok (goInt 0) w := run_copy_nil (P := Tryd.prog) w 22 22 o.type 36 ⟨g, 0, none⟩ 0 dCap Tryd.underlying22 (by rw [hsz]; rfl)
    simp [execOp, ho, resolve, invoke, builtin, hd, hs, hr, Result.andThen]
    refine hK _ _ (h w ?_ (fun _ _ => rfl) rfl rfl rfl rfl)
    rw [hg]
    have : cur = #[] := Array.eq_empty_of_size_eq_zero (by simpa using hc)
    rw [this]; rfl
  | some x =>
    have hr := run_copy_toks (P := Tryd.prog) w 22 22 o.type 36 g dCap l.length x cap cur 36 (fr3 l) Tryd.underlying22 hsz hg (fr3_len l) (sk_cells (h4 x rfl)) (by rw [fr3_len, hc]; exact Nat.le_refl _) (fr3_one l)
    simp [execOp, ho, resolve, invoke, builtin, hd, hs, hr, Result.andThen]
    refine hK _ _ (h _ ?_ (fun k hk => setRow_other w g k _ hk) (by simp [World.setRow]) rfl rfl rfl)
    rw [setRow_heap w g cur _ 36 _ hg]
    have : cur.toList.drop (fr3 l).length = [] := List.drop_eq_nil_of_le (by rw [fr3_len]; simp [hc])
    rw [this, List.append_nil]

theorem wpList_mkK {w : World} {ops : Array Oper} {rest : List Oper} {o : Oper} {a : Act} {Q : Exit → Act → World → Prop} (hg : o.guard = none) (l c : Operand) (hop : o.op = Op.makeSlice 22 l c)
    (kl kc : IntKind) (n : Nat) (hl : a.eval l = .int kl n) (hc : a.eval c = .int kc n) (b2 : n ≤ 5864062014805)
    (hK : ∀ w' cur, w'.heap[w.heap.size]? = some (.cells cur 36 (0, 0)) → cur.size = n * 3 → Below w.heap.size w w' → wpList Tryd.prog ops Q rest (a.put o.dst (.slice (some ⟨w.heap.size, 0, none⟩) n n)) w') :
    wpList Tryd.prog ops Q (o :: rest) a w := by
  obtain ⟨i0, hi, hz0, hz1, hz2⟩ := info_parts infoTok
  refine wpList_plain hg fun K hK' => ?_
  have hr := run_make (P := Tryd.prog) w 22 36 i0 _ Tryd.underlying22 hi hz0 kl kc (n : Int) (n : Int) (by omega) (by omega) (by rw [hz2]; omega) (by omega)
  unfold Oper.wp
  simp [execOp, hop, hl, hc, hr, Result.andThen]
  refine hK' _ _ (hK _ _ (heap_alloc_new _ _) ?_ ((Below.refl _ _).alloc (Nat.le_refl _) _))
  rw [hz1]
  simp [madeCells]

/-- The law's list: the tokens in new memory. -/
theorem list_any (v : Value) (R : List Tk) (w : World) (h : SK w v R) (hn : R.length ≤ 5864062014805) :
    Calls Tryd.prog 6 #[v] w fun e w' => ∃ u, e = .returned u ∧ OK w' w.heap.size u R ∧ Below w.heap.size w w' := by
  have HV := hide h
  obtain ⟨a2, c2, rfl, _, _⟩ := h.open
  clear h
  go_enter Tryd.func6, Tryd.ntmps6
  go_wp2_with (at_make; refine wpList_mkK rfl _ _ rfl _ _ R.length rfl rfl (by omega) ?_)
  intro w1 cur hg1 hc1 hb1
  have hV1 := HV.out.below hb1
  go_wp2_with (refine wpList_copyK rfl _ _ rfl w.heap.size R.length R.length (.slice a2 R.length c2) R rfl rfl hV1 cur hg1 hc1 rfl ?_)
  intro w2 hg2 ho2 hs2 q1 q2 q3
  have HB2 : Hid (Below w.heap.size w w2) := ⟨q1.trans hb1.os, q2.trans hb1.tape, q3.trans hb1.output, by rw [hs2]; exact hb1.size, fun k hk => (ho2 k (by omega)).trans (hb1.block k hk)⟩
  have HGV : Hid (OK w2 w.heap.size (.slice (some ⟨w.heap.size, 0, none⟩) R.length R.length) R) :=
    ⟨fr3_len R, .inr ⟨w.heap.size, R.length, _, rfl, Nat.le_refl _, hg2, Nat.le_refl _, by unfold maxLen; omega, by simp [fr3_len], List.take_of_length_le (by simp [fr3_len])⟩⟩
  clear hg1 hc1 hb1 hV1 hg2 ho2 hs2 q1 q2 q3
  go_wp2
  go_ret
  exact ⟨_, rfl, HGV.out, HB2.out⟩
end Go.Proofs.YthngagciiidppaaDoor

