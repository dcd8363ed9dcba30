import Derived.Test.YthngagciiidppaaGreatDoorGA15
import Derived.Test.YthngagciiidppaaGreatDoorGA20
import Derived.Test.YthngagciiidppaaGreatDoorGA14
namespace Go.Proofs.YthngagciiidppaaGreatDoor
open Go.RowKit Go.Maps
set_option maxRecDepth 20000
set_option linter.unusedVariables false

theorem pow_split {L a : Nat} (hL : L ≤ 60) (h : a ≤ L) : 2 ^ (60 - a) = 2 ^ (60 - L) * 2 ^ (L - a) := by
  rw [← Nat.pow_add]
  congr 1
  omega

theorem kr_limit {len : Nat → Nat} {l : List Nat} {L : Nat} (hL : L ≤ 60) (h : ∀ s ∈ l, len s ≤ L) : kr len l = 2 ^ (60 - L) * (l.map fun s => 2 ^ (L - len s)).sum := by
  induction l with
  | nil => simp [kr]
  | cons a r ih =>
    have ih' := ih fun s hs => h s (List.mem_cons_of_mem _ hs)
    unfold kr at ih' ⊢
    simp only [List.map_cons, List.sum_cons]
    rw [ih', pow_split hL (h a (by simp)), Nat.mul_add]

theorem kr_perm {len : Nat → Nat} {l l' : List Nat} (h : l.Perm l') : kr len l = kr len l' := perm_sum _ h
theorem fl_perm {f len : Nat → Nat} {l l' : List Nat} (h : l.Perm l') : fl f len l = fl f len l' := perm_sum _ h

theorem lm_facts {f : List Int} {L : Nat} (hs : Sound f) (hL : 1 ≤ L ∧ L ≤ 15) (hu : (us6 f).length ≤ 2 ^ L) (h2 : 2 ≤ (us6 f).length) : kr (lm f L) (us6 f) = 2 ^ 60 ∧ (∀ s ∈ us6 f, lm f L s ≤ L) ∧ ∀ o, (∀ s ∈ us6 f, o s ≤ L) → kr o (us6 f) ≤ 2 ^ 60 → fl (fq f) (lm f L) (us6 f) ≤ fl (fq f) o (us6 f) := by
  have hp := (srl_srt f).perm
  have key := limited_good (f := fq f) (len := lm f L) (us6 := srl f) L hL.1 (by rw [srl_len]; omega) (lws_rise hs.nn) (by rw [srl_len]; exact hu) (fun i hi => by
    have := lm_at (l := f) (L := L) h2 hi
    rw [List.getD_eq_getElem?_getD, List.getElem?_eq_getElem hi, Option.getD_some, this]
    rw [srl_len, show 2 * ((us6 f).length - 1) = 2 * (us6 f).length - 2 by omega]
    rfl)
  obtain ⟨a, b, c⟩ := key
  have hle : ∀ s ∈ us6 f, lm f L s ≤ L := fun s h => b s (srl_mem.2 h)
  have hsum : ∀ g : Nat → Nat, ((srl f).map g).sum = ((us6 f).map g).sum := fun g => perm_sum g hp
  have e60 : 2 ^ (60 - L) * 2 ^ L = 2 ^ 60 := by rw [← Nat.pow_add]; congr 1; omega
  refine ⟨?_, hle, fun o ho hk => ?_⟩
  · rw [kr_limit (by omega) hle, ← hsum, a]
    exact e60
  · rw [← fl_perm hp, ← fl_perm hp]
    refine c o (fun s h => ho s (srl_mem.1 h)) ?_
    rw [kr_limit (by omega) ho, ← e60] at hk
    rw [hsum]
    exact Nat.le_of_mul_le_mul_left hk (Nat.two_pow_pos _)

theorem lmt_get {f : List Int} {L s : Nat} (h : s < f.length) : (lmt f L).getD s 0 = (lm f L s : Int) := by
  unfold lmt
  rw [List.getD_eq_getElem?_getD, List.getElem?_map, List.getElem?_range h]
  rfl

theorem nn_lmt {f : List Int} {L s : Nat} (h : s ∈ us6 f) : nn (lmt f L) s = lm f L s := by
  unfold nn
  rw [lmt_get (mem_us.1 h).1]
  rfl

theorem lm_one {f : List Int} {L s : Nat} (h : (us6 f).length = 1) (hm : s ∈ us6 f) : lm f L s = 1 := by
  unfold lm
  rw [if_pos h, if_pos hm]

theorem gd_lmt {f : List Int} {L : Nat} (hs : Sound f) (hL : 1 ≤ L ∧ L ≤ 15) (hu : (us6 f).length ≤ 2 ^ L) : Gd f (lmt f L) L := by
  refine ⟨lmt_len f L, fun s h h0 => ?_, fun s hm => ?_, fun h s hm => by rw [lmt_get (mem_us.1 hm).1, lm_one h hm]; rfl, fun h2 => ?_⟩
  · rw [lmt_get h, lm_out (fun hm => by have := (mem_us.1 hm).2; omega)]; rfl
  · have hm' : s ∈ us6 f := hm
    have hpos := List.length_pos_of_mem hm'
    rw [lmt_get (mem_us.1 hm').1]
    by_cases h1 : (us6 f).length = 1
    · rw [lm_one h1 hm']; omega
    · obtain ⟨a, b, _⟩ := lm_facts hs hL hu (by omega)
      have h3 := kr_one a (by omega) hm'
      have h4 := b s hm'
      omega
  · rw [kr_congr (fun s h => nn_lmt h)]
    exact (lm_facts hs hL hu h2).1

/-- Nothing within Kraft's rule and the limit costs less. -/
theorem lm_best {f o : List Int} {L : Nat} (hs : Sound f) (hL : 1 ≤ L ∧ L ≤ 15) (hu : (us6 f).length ≤ 2 ^ L) (ho : LenOk f o L f.length) (hk : kr (nn o) (us6 f) ≤ 2 ^ 60) : fl (fq f) (nn (lmt f L)) (us6 f) ≤ fl (fq f) (nn o) (us6 f) := by
  rw [fl_congr (fun s h => nn_lmt h)]
  by_cases h2 : 2 ≤ (us6 f).length
  · exact (lm_facts hs hL hu h2).2.2 (nn o) (fun s h => by have := ho s h; unfold nn; omega) hk
  · refine sum_map_le fun s h => ?_
    have hpos := List.length_pos_of_mem h
    have e : lm f L s = 1 := lm_one (by omega) h
    have := ho s h
    show fq f s * lm f L s ≤ _
    rw [e]
    exact Nat.mul_le_mul_left _ (by unfold nn; omega)

theorem Sound.lmE {f : List Int} {L : Nat} (hs : Sound f) (hL : 1 ≤ L ∧ L ≤ 15) : lmE f L = (if 2 ^ L < (us6 f).length then 60 else 0) ∧ lmL f L = (if 2 ^ L < (us6 f).length then [] else lmt f L) := by
  have e : Go.Proofs.YthngagciiidppaaGreatDoor.lmE f L = (if 2 ^ L < (us6 f).length then 60 else 0) := by
    unfold Go.Proofs.YthngagciiidppaaGreatDoor.lmE
    rw [if_neg (by have := hs.len; omega), if_neg (by rw [bnb_iff.2 hs.ok]; decide), Int.toNat_natCast]
  refine ⟨e, ?_⟩
  unfold Go.Proofs.YthngagciiidppaaGreatDoor.lmL
  rw [e]
  by_cases c : 2 ^ L < (us6 f).length
  · rw [if_pos c, if_pos c]; rfl
  · rw [if_neg c, if_neg c, Int.toNat_natCast]; rfl

theorem OI.blk {w : World} {base a n c} {l : List Int} (h : OI w base (.slice a n c) l) : ∀ k, (Value.slice a n c).ownBlock = some k → k < w.heap.size := fun k hk => (h.lt k hk).2

theorem limited_ok {f : List Int} {L : Nat} (hs : Sound f) (hL : 1 ≤ L ∧ L ≤ 15) (hu : (us6 f).length ≤ 2 ^ L) (v : Value) (w : World) (h : SI w v f) (hne : ∀ k, v.ownBlock = some k → k < w.heap.size) :
    Calls Tryz.prog 50 #[v, .int .i64 (L : Int)] w fun e w' => ∃ a c, e = .returned (.tuple #[.slice a f.length c, .int .i64 0]) ∧ OI w' w.heap.size (.slice a f.length c) (lmt f L) ∧ Below w.heap.size w w' := by
  have := limited_any v f L w h hne (by omega)
  obtain ⟨e1, e2⟩ := hs.lmE hL
  rw [if_neg (by omega)] at e1 e2
  rw [e1, e2, lmt_len] at this
  exact this
end Go.Proofs.YthngagciiidppaaGreatDoor

namespace Go.Proofs.YthngagciiidppaaGreatDoor
open Go.RowKit Go.Maps
set_option maxRecDepth 20000
set_option linter.unusedVariables false

/-- Nodes in memory: each with the slice of what it holds. -/
abbrev Mnd := Nod × Value

def fn2 (M : List Mnd) : List Value := M.flatMap fun p => [.int .i64 (p.1.1 : Int), p.2]

theorem fn2_len (M : List Mnd) : (fn2 M).length = M.length * 2 := by
  induction M with
  | nil => rfl
  | cons a r ih => unfold fn2 at ih ⊢; rw [List.flatMap_cons, List.length_append, ih]; simp; omega

def mn0 : Mnd := (nod0, undef)

theorem fn2_get {M : List Mnd} {i : Nat} (h : i < M.length) : (fn2 M)[i * 2]? = some (.int .i64 ((M.getD i mn0).1.1 : Int)) ∧ (fn2 M)[i * 2 + 1]? = some (M.getD i mn0).2 := by
  induction M generalizing i with
  | nil => simp at h
  | cons a r ih =>
    cases i with
    | zero => exact ⟨rfl, rfl⟩
    | succ i =>
      have := ih (i := i) (by simpa using h)
      have e : fn2 (a :: r) = .int .i64 (a.1.1 : Int) :: a.2 :: fn2 r := rfl
      rw [e, show (i + 1) * 2 = i * 2 + 1 + 1 by omega, show i * 2 + 1 + 1 + 1 = (i * 2 + 1) + 1 + 1 by omega]
      simp only [List.getElem?_cons_succ]
      exact this

theorem fn2_snoc (M : List Mnd) (p : Mnd) : fn2 (M ++ [p]) = fn2 M ++ [.int .i64 (p.1.1 : Int), p.2] := by simp [fn2]

/-- A row of nodes of one's own; what they hold is only read. -/
structure ON (w : World) (base : Nat) (v : Value) (M : List Mnd) : Prop where
  row : w.ownsRow base 98 2 v M.length (fn2 M)
  holds : ∀ p ∈ M, OI w 0 p.2 (ci p.1.2)

theorem ON.lt {w : World} {base : Nat} {v : Value} {M : List Mnd} (h : ON w base v M) : ∀ k, v.ownBlock = some k → base ≤ k ∧ k < w.heap.size := World.ownsRow.lt h.row

theorem rown_move6 {w w' : World} {base : Nat} {e : TypeId} {size : Nat} {v : Value} {n : Nat} {xs : List Value} (h : w.ownsRow base e size v n xs) (hb : ∀ k, v.ownBlock = some k → w'.heap[k]? = w.heap[k]?) : w'.ownsRow base e size v n xs := by
  refine ⟨h.1, ?_⟩
  rcases h.2 with h2 | ⟨g, cap, cur, rfl, h1, h2, r⟩
  · exact .inl h2
  · exact .inr ⟨g, cap, cur, rfl, h1, (hb g rfl).trans h2, r⟩

theorem ON.below {w w' : World} {base B : Nat} {v : Value} {M : List Mnd} (h : ON w base v M) (hb : Below B w w') (hB : w.heap.size ≤ B) : ON w' base v M :=
  ⟨rown_move6 h.row fun k hk => hb.block k (Nat.lt_of_lt_of_le (h.lt k hk).2 hB), fun p hp => (h.holds p hp).below hb hB⟩

theorem ON.drewN {w : World} {base : Nat} {v : Value} {M : List Mnd} (h : ON w base v M) (n : Nat) : ON (w.drewN n) base v M := ⟨rown_move6 h.row fun _ _ => rfl, fun p hp => (h.holds p hp).move fun _ _ => rfl⟩

theorem ON.base {w : World} {base base' : Nat} {v : Value} {M : List Mnd} (h : ON w base v M) (hb : base' ≤ base) : ON w base' v M := by
  refine ⟨⟨h.row.1, ?_⟩, h.holds⟩
  rcases h.row.2 with h2 | ⟨g, cap, cur, rfl, h1, r⟩
  · exact .inl h2
  · exact .inr ⟨g, cap, cur, rfl, Nat.le_trans hb h1, r⟩

theorem ON.shape {w : World} {base : Nat} {v : Value} {M : List Mnd} (h : ON w base v M) : ∃ a c, v = .slice a M.length c ∧ M.length ≤ c ∧ c ≤ 9223372036854775807 := by
  rcases h.row.2 with ⟨rfl, h0⟩ | ⟨g, cap, cur, rfl, _, _, h3, h4, _⟩
  · exact ⟨none, 0, by rw [h0], by omega, by omega⟩
  · unfold maxLen at h4; exact ⟨_, _, rfl, h3, by omega⟩

theorem ON.get {w : World} {base : Nat} {v : Value} {M : List Mnd} (h : ON w base v M) {i : Nat} (hi : i < M.length) : ∃ g c, v = .slice (some ⟨g, 0, none⟩) M.length c ∧ w.cell? ⟨g, i * 2, none⟩ = some (.int .i64 ((M.getD i mn0).1.1 : Int)) ∧ w.cell? ⟨g, i * 2 + 1, none⟩ = some (M.getD i mn0).2 := by
  have hc := @World.ownsRow.cells _ _ _ _ _ _ _ h.row
  rcases h.row.2 with ⟨rfl, h0⟩ | ⟨g, cap, cur, rfl, _⟩
  · omega
  · obtain ⟨g1, g2⟩ := fn2_get hi
    have c1 := hc (g := g) rfl _ _ g1
    have c2 := hc (g := g) rfl _ _ g2
    rw [Addr.add_lit, Nat.zero_add] at c1 c2
    exact ⟨g, cap, rfl, c1, c2⟩

theorem md_mem {M : List Mnd} {i : Nat} (h : i < M.length) : M.getD i mn0 ∈ M := by
  rw [show M.getD i mn0 = M[i] by simp [h]]
  exact List.getElem_mem h

/-- A list of ints and a row of nodes lie in blocks of their own. -/
theorem oi_apart {w : World} {b0 base : Nat} {v u : Value} {l : List Int} {n : Nat} {xs : List Value} (h : OI w b0 v l) (h2 : w.ownsRow base 98 2 u n xs) : ∀ k, v.ownBlock = some k → u.ownBlock ≠ some k := by
  intro k hk he
  rcases h.2 with ⟨rfl, _⟩ | ⟨g, cap, cur, rfl, _, hg, _⟩
  · simp [Value.ownBlock] at hk
  · rcases h2.2 with ⟨rfl, _⟩ | ⟨g', cap', cur', rfl, _, hg', _⟩
    · simp [Value.ownBlock] at he
    · simp only [Value.ownBlock, Option.some.injEq] at hk he
      rw [hk] at hg
      rw [he] at hg'
      rw [hg] at hg'
      simp at hg'

theorem infoNode : (Tryz.prog.info? 98).map (fun i => (i.zero, i.size, i.bytes)) = some (some (.agg #[.int .i64 0, .slice none 0 0]), 2, 32) := by kernel_rfl

theorem on_snoc {w w' : World} {base : Nat} {v v' : Value} {M : List Mnd} {p : Mnd} (h : ON w base v M) (hp : OI w 0 p.2 (ci p.1.2)) (hn : w'.ownsRow base 98 2 v' (M.length + 1) (fn2 M ++ [.int .i64 (p.1.1 : Int), p.2])) (hg : w.grownBy w' v.ownBlock) : ON w' base v' (M ++ [p]) := by
  have mv : ∀ {x : Value} {l : List Int}, OI w 0 x l → OI w' 0 x l := fun {x l} hx => hx.move fun k hk => hg.block k (hx.lt k hk).2 (fun e => oi_apart hx h.row k hk e.symm)
  refine ⟨by rw [List.length_append, fn2_snoc]; exact hn, fun q hq => ?_⟩
  rcases List.mem_append.1 hq with hq | hq
  · exact mv (h.holds q hq)
  · rw [List.mem_singleton.1 hq]; exact mv hp

theorem OI.one {w : World} {b0 : Nat} {v : Value} {l : List Int} (h : OI w b0 v l) : v.oneCell' = true := by
  obtain ⟨a, c, rfl⟩ := h.shape
  rfl

theorem OI.al {w : World} {base : Nat} {v : Value} {l : List Int} (h : OI w base v l) (o : Obj) : OI (w.alloc o) base v l := h.alloc o

theorem ON.alloc {w : World} {base : Nat} {v : Value} {M : List Mnd} (h : ON w base v M) (o : Obj) : ON (w.alloc o) base v M := ⟨rown_move6 h.row fun k hk => Below.heap_alloc w o k (h.lt k hk).2, fun p hp => (h.holds p hp).alloc o⟩

/-- One more node. -/
theorem wpNode {w : World} {ops : Array Oper} {rest : List Oper} {o : Oper} {a : Act} {Q : Exit → Act → World → Prop} (hgd : o.guard = none) (s x : Operand)
    (ho : o.op = .call { callee := .builtin .append, args := #[s, x], argTypes := #[93, 93] }) (base : Nat) (v : Value) (M : List Mnd) (p : Mnd) (X1 : Int) (hX1 : X1 = (p.1.1 : Int)) (hp : OI w 0 p.2 (ci p.1.2)) (hs : a.eval s = v) (hown : ON w base v M)
    (c : Nat) (hx : a.eval x = .slice (some ⟨w.heap.size, 0, none⟩) 1 c) (hn : M.length ≤ 1000000) (hbase : base ≤ w.heap.size)
    (h : ∀ v' w', ON w' base v' (M ++ [p]) → (w.alloc (.cells #[.int .i64 X1, p.2] 98)).grownBy w' v.ownBlock → wpList Tryz.prog ops Q rest (a.put o.dst v') w') :
    wpList Tryz.prog ops Q (o :: rest) a (w.alloc (.cells #[.int .i64 X1, p.2] 98)) := by
  obtain ⟨i0, hi0, hz0, hz1, hz2⟩ := info_parts infoNode
  subst hX1
  have hone := hp.one
  refine wpList_append_own_at _ hgd s x 93 ho base 98 i0 _ 2 32 Tryz.underlying93 hi0 hz0 hz1 hz2 rfl (by omega) v M.length (fn2 M) hs (hown.alloc _).row ⟨w.heap.size, 0, none⟩ 1 c [.int .i64 (p.1.1 : Int), p.2] hx rfl (World.news_of_block (cs := #[.int .i64 (p.1.1 : Int), p.2]) (t := 98) (fr := (0, 0)) (heap_alloc_new w _))
    (fun u hu => by
      rcases List.mem_cons.1 hu with rfl | hu
      · rfl
      · rw [List.mem_singleton.1 hu]; exact hone) (by unfold maxLen; omega) (by omega) (by simp; omega) fun v' w' h1 h2 _ _ => h v' w' ?_ h2
  exact on_snoc (hown.alloc _) (hp.alloc _) h1 h2

theorem grow_node {w wr w3 : World} {u : Value} {M : List Mnd} {o : Obj} {B : Nat} (hB : Below B w wr) (hw : B ≤ w.heap.size) (hO : ON wr B u M) (hg : (wr.alloc o).grownBy w3 u.ownBlock) : Below B w w3 :=
  (hB.alloc (Nat.le_trans hw hB.size) _).grown hg (by have := hB.size; simp; omega) (fun j hj => by have := hO.lt j hj; omega)
end Go.Proofs.YthngagciiidppaaGreatDoor

namespace Go.Proofs.YthngagciiidppaaGreatDoor
open Go.RowKit Go.Maps
set_option maxRecDepth 20000
set_option linter.unusedVariables false

theorem xused_any6 (v : Value) (l : List Int) (w : World) (h : SI w v l) (hr : l.length ≤ 288) :
    Calls Tryz.prog 80 #[v] w fun e w' => ∃ a c, e = .returned (.slice a (us6 l).length c) ∧ OI w' w.heap.size (.slice a (us6 l).length c) (ci (us6 l)) ∧ Below w.heap.size w w' := by
  have HS := hide h
  obtain ⟨ao, cap, rfl, hlc, hcm⟩ := h.open
  clear h
  go_enter Tryz.func80, Tryz.ntmps80
  go_wp2
  go_loopw [3, 4] (fun u i wr => ∃ k : Nat, k ≤ l.length ∧ i = .int .i64 k ∧ Hid (OI wr w.heap.size u (ci (usk l k))) ∧ Hid (Below w.heap.size w wr)) (fun _ i _ => l.length - (intOf i).toNat)
  case atStart => exact ⟨0, Nat.zero_le _, rfl, hide (show OI _ _ _ [] from World.ownsRow_nil _ _ _ _), Below.refl _ _⟩
  case round =>
    obtain ⟨k, hk, rfl, HO, HB⟩ := hrel
    by_cases hlt : k < l.length
    · have hlt' : (k : Int) < (l.length : Int) := by omega
      obtain ⟨b, o, rfl, hc⟩ := HS.out.get HB.out hlt
      have HD : Hid (ci (usk l (k + 1)) = ci (usk l k) ++ if 0 < l.getD k 0 then [(k : Int)] else []) := by
        show _ = _
        rw [usk_succ]
        unfold ci
        rw [List.map_append]
        by_cases q : 0 < l.getD k 0
        · rw [if_pos q, if_pos q]; rfl
        · rw [if_neg q, if_neg q]; rfl
      have hDl0 := usk_len l k
      obtain ⟨y, HY⟩ : ∃ y, Hid (y = l.getD k 0) := ⟨_, rfl⟩
      rw [← HY.out] at hc HD
      obtain ⟨D, HDD⟩ : ∃ D, Hid (D = ci (usk l k)) := ⟨_, rfl⟩
      have hDl : D.length ≤ k := by rw [HDD.out, ci_len]; exact hDl0
      rw [← HDD.out] at HO HD
      clear hDl0
      have hBw := HB.out.size
      obtain ⟨a1, p1, hu⟩ := HO.out.shape
      subst hu
      by_cases hy : 0 < y
      · have HE : Hid (ci (usk l (k + 1)) = D ++ [(k : Int)]) := by show _ = _; rw [HD.out, if_pos hy]
        have HALC : Hid (OI (wr.alloc (.cells #[.int .i64 (k : Int)] 3)) w.heap.size (.slice a1 D.length p1) D) := HO.out.alloc _
        have HSR : Hid (Src Tryz.prog 1 36 (.slice (some ⟨wr.heap.size, 0, none⟩) 1 1) ([(k : Int)] : List Int).length (([(k : Int)] : List Int).map (Value.int .i64)) (wr.alloc (.cells #[.int .i64 (k : Int)] 3))) := built_srcI wr [(k : Int)]
        go_wp2_with (at_builtin; refine wpList_appI rfl _ _ 36 rfl w.heap.size _ _ D [(k : Int)] rfl HALC.out rfl HSR.out (by simp; omega) (by simp; omega) ?_)
        intro v3 w3 ho3 hgr3
        have HN : Hid (OI w3 w.heap.size v3 (ci (usk l (k + 1))) ∧ Below w.heap.size w w3) := ⟨by rw [HE.out]; exact ho3, grow_one HB.out HO.out hgr3⟩
        clear ho3 hgr3
        go_wp2
        go_roundw
        case rel => exact ⟨k + 1, by omega, by go_num, HN.out.1, HN.out.2⟩
        case measure => simp [intOf]; omega
      · have HE : Hid (OI wr w.heap.size (.slice a1 D.length p1) (ci (usk l (k + 1)))) := by show OI _ _ _ _; rw [HD.out, if_neg hy, List.append_nil]; exact HO.out
        go_wp2
        go_roundw
        case rel => exact ⟨k + 1, by omega, by go_num, HE, HB⟩
        case measure => simp [intOf]; omega
    · obtain rfl : k = l.length := by omega
      have hlt' : ¬ (l.length : Int) < (l.length : Int) := by omega
      have HF : Hid (OI wr w.heap.size u3 (ci (us6 l))) := HO.out
      clear HO
      obtain ⟨a1, p1, hu⟩ := HF.out.shape
      rw [ci_len] at hu
      subst hu
      go_wp2
      go_ret
      exact ⟨_, _, rfl, HF.out, HB.out⟩


theorem zeros_any (n : Nat) (w : World) (hn : n ≤ 288) :
    Calls Tryz.prog 62 #[.int .i64 n] w fun e w' => ∃ a c, e = .returned (.slice a n c) ∧ OI w' w.heap.size (.slice a n c) (List.replicate n 0) ∧ Below w.heap.size w w' := by
  go_enter Tryz.func62, Tryz.ntmps62
  go_wp2
  go_loopw [3, 4] (fun u i wr => ∃ k : Nat, k ≤ n ∧ i = .int .i64 k ∧ Hid (OI wr w.heap.size u (List.replicate k 0)) ∧ Hid (Below w.heap.size w wr)) (fun _ i _ => n - (intOf i).toNat)
  case atStart => exact ⟨0, Nat.zero_le _, rfl, World.ownsRow_nil _ _ _ _, Below.refl _ _⟩
  case round =>
    obtain ⟨k, hk, rfl, HO, HB⟩ := hrel
    by_cases hlt : k < n
    · have hlt' : (k : Int) < (n : Int) := by omega
      have HD : Hid (List.replicate (k + 1) (0 : Int) = List.replicate k 0 ++ [0]) := List.replicate_succ'
      obtain ⟨D, HDD⟩ : ∃ D : List Int, Hid (D = List.replicate k 0) := ⟨_, hide rfl⟩
      have hDl : D.length ≤ k := by rw [HDD.out, List.length_replicate]; exact Nat.le_refl _
      rw [← HDD.out] at HO HD
      have hBw := HB.out.size
      obtain ⟨a1, p1, hu⟩ := HO.out.shape
      subst hu
      have HALC : Hid (OI (wr.alloc (.cells #[.int .i64 0] 3)) w.heap.size (.slice a1 D.length p1) D) := HO.out.alloc _
      have HSR : Hid (Src Tryz.prog 1 36 (.slice (some ⟨wr.heap.size, 0, none⟩) 1 1) ([0] : List Int).length (([0] : List Int).map (Value.int .i64)) (wr.alloc (.cells #[.int .i64 0] 3))) := built_srcI wr [0]
      go_wp2_with (at_builtin; refine wpList_appI rfl _ _ 36 rfl w.heap.size _ _ D [0] rfl HALC.out rfl HSR.out (by simp; omega) (by simp; omega) ?_)
      intro v3 w3 ho3 hgr3
      have HN : Hid (OI w3 w.heap.size v3 (List.replicate (k + 1) 0) ∧ Below w.heap.size w w3) := ⟨by rw [HD.out]; exact ho3, grow_one HB.out HO.out hgr3⟩
      clear ho3 hgr3
      go_wp2
      go_roundw
      case rel => exact ⟨k + 1, by omega, by go_num, HN.out.1, HN.out.2⟩
      case measure => simp [intOf]; omega
    · obtain rfl : k = n := by omega
      have hlt' : ¬ (k : Int) < (k : Int) := by omega
      obtain ⟨a1, p1, hu⟩ := HO.out.shape
      rw [List.length_replicate] at hu
      subst hu
      go_wp2
      go_ret
      exact ⟨_, _, rfl, HO.out, HB.out⟩

def mro (M : List Mnd) : List Nod := M.map (·.1)

theorem mro_len (M : List Mnd) : (mro M).length = M.length := by simp [mro]
theorem mro_get (M : List Mnd) (i : Nat) : (mro M).getD i nod0 = (M.getD i mn0).1 := by
  simp only [mro, List.getD_eq_getElem?_getD, List.getElem?_map]
  cases M[i]? <;> rfl

theorem era_skip {α : Type} {M : List α} {k i : Nat} (h : k < M.length) (hi : k ≠ i) : (M.take (k + 1)).eraseIdx i = (M.take k).eraseIdx i ++ [M[k]] := by
  rw [List.take_succ_eq_append_getElem h]
  by_cases c : i < k
  · rw [List.eraseIdx_append_of_lt_length (by simp; omega)]
  · rw [List.eraseIdx_of_length_le (by simp; omega), List.eraseIdx_of_length_le (by simp; omega)]

theorem era_at {α : Type} {M : List α} {i : Nat} (h : i < M.length) : (M.take (i + 1)).eraseIdx i = (M.take i).eraseIdx i := by
  rw [List.take_succ_eq_append_getElem h, List.eraseIdx_append_of_length_le (by simp; omega)]
  rw [show i - (M.take i).length = 0 by simp; omega]
  rw [List.eraseIdx_of_length_le (k := i) (l := M.take i) (by simp; omega)]
  simp

end Go.Proofs.YthngagciiidppaaGreatDoor

namespace Go.Proofs.YthngagciiidppaaGreatDoor
open Go.RowKit Go.Maps
set_option maxRecDepth 20000
set_option linter.unusedVariables false

theorem step_appI {ops : Array Oper} {o : Oper} {a : Act} {w : World} {K : Act → World → Prop} {Q : Exit → Act → World → Prop} {E : Prop} (hgd : o.guard = none) (s x : Operand)
    (ho : o.op = .call { callee := .builtin .append, args := #[s, x], argTypes := #[36, 36] }) (base : Nat) (v xv : Value) (l news : List Int) (hv : a.eval s = v) (hown : OI w base v l) (hx : a.eval x = xv) (hs : Src Tryz.prog 1 36 xv news.length (news.map (Value.int .i64)) w)
    (hb : l.length + news.length ≤ 17592186044416) (hbase : base ≤ w.heap.size)
    (h : ∀ v' w', OI w' base v' (l ++ news) → Grew w w' v v' → K (a.put o.dst v') w') :
    if Region.wanted o (yielded ops a.tmps) = true then Oper.wp Tryz.prog o a w K Q else E := by
  have hw : Region.wanted o (yielded ops a.tmps) = true := by simp [Region.wanted, hgd]
  rw [if_pos hw]
  obtain ⟨v', w', hr, h2, h3, _⟩ := run_appI w base 36 o.type v xv l news hown hs hb hbase
  unfold Oper.wp
  simp [execOp, ho, resolve, invoke, builtin, hv, hx, hr, Result.andThen]
  exact h v' w' h2 h3

/-- The joined node under way: its weight and what it holds so far. -/
structure Cst (wC : World) (gC : Nat) (a : Int) (hv : Value) (l : List Nat) (W : World) : Prop where
  bel : Below gC wC W
  box : W.heap[gC]? = some (.cells #[.int .i64 a, hv] 98 (0, 0))
  own : OI W gC hv (ci l)

theorem Cst.cells {wC : World} {gC : Nat} {a : Int} {hv : Value} {l : List Nat} {W : World} (h : Cst wC gC a hv l W) : W.cell? ⟨gC, 0, none⟩ = some (.int .i64 a) ∧ W.cell? ⟨gC, 1, none⟩ = some hv ∧ W.frozen? ⟨gC, 1, none⟩ = false ∧ gC < W.heap.size := by
  have hlt : gC < W.heap.size := (Array.getElem?_eq_some_iff.1 h.box).1
  refine ⟨?_, ?_, ?_, hlt⟩
  · unfold World.cell?; simp only [h.box]; rfl
  · unfold World.cell?; simp only [h.box]; rfl
  · unfold World.frozen?; simp [h.box]

/-- One more is held. -/
theorem Cst.app {wC : World} {gC : Nat} {a : Int} {hv v' : Value} {l : List Nat} {W w6 : World} {o : Obj} (h : Cst wC gC a hv l W) (x : Nat) (hCs : gC ≤ wC.heap.size) (ho : OI w6 gC v' (ci l ++ [(x : Int)])) (hg : Grew (W.alloc o) w6 hv v') : w6.cell? ⟨gC, 1, none⟩ = some hv ∧ w6.frozen? ⟨gC, 1, none⟩ = false ∧ Cst wC gC a v' (l ++ [x]) (w6.setCell ⟨gC, 1, none⟩ v') := by
  have hlt := h.cells.2.2.2
  have hne : hv.ownBlock ≠ some gC := fun e => by
    rcases h.own.2 with ⟨rfl, _⟩ | ⟨g, cap, cur, rfl, _, hg', _⟩
    · simp [Value.ownBlock] at e
    · simp only [Value.ownBlock, Option.some.injEq] at e
      subst e
      rw [h.box] at hg'
      simp at hg'
  have hbox6 : w6.heap[gC]? = some (.cells #[.int .i64 a, hv] 98 (0, 0)) := by
    rw [hg.by.block gC (by simp; omega) (fun e => hne e.symm), Below.heap_alloc W o gC hlt]
    exact h.box
  have hne' : v'.ownBlock ≠ some gC := fun e => by
    rcases ho.2 with ⟨rfl, _⟩ | ⟨g, cap, cur, rfl, _, hg', _⟩
    · simp [Value.ownBlock] at e
    · simp only [Value.ownBlock, Option.some.injEq] at e
      subst e
      rw [hbox6] at hg'
      simp at hg'
  refine ⟨by unfold World.cell?; simp only [hbox6]; rfl, by unfold World.frozen?; simp [hbox6], ?_, ?_, ?_⟩
  · have hb6 : Below gC wC w6 := (h.bel.alloc (Nat.le_trans hCs h.bel.size) _).grown hg.by (by have := h.bel.size; simp; omega) (fun j hj => (h.own.lt j hj).1)
    exact hb6.setCell (p := ⟨gC, 1, none⟩) (Nat.le_refl _) _
  · rw [heap_setCell_at _ hbox6]
    rfl
  · have e : ci (l ++ [x]) = ci l ++ [(x : Int)] := by simp [ci]
    rw [e]
    exact ho.move fun k hk => setCell_others _ _ _ _ k (fun q => hne' (by rw [← q]; exact hk))
end Go.Proofs.YthngagciiidppaaGreatDoor

