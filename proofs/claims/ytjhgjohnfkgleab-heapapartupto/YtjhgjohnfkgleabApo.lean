import Derived.Test.YtjhgjohnfkgleabApa
import Derived.Test.YtjhgjohnfkgleabRng2
namespace Go.Proofs.Ytjhgjohnfkgleab
open Go.RowKit Go.Maps
set_option maxRecDepth 20000

theorem OI.put {w : World} {B n c : Nat} {a : Option Addr} {l : List Int} (h : OI w B (.slice a n c) l) {k : Nat} (hk : k < l.length) (m : Int) :
    ∃ g, a = some ⟨g, 0, none⟩ ∧ (∃ u, w.cell? ⟨g, k, none⟩ = some u) ∧ w.frozen? ⟨g, k, none⟩ = false ∧ OI (w.setCell ⟨g, k, none⟩ (.int .i64 m)) B (.slice a n c) (l.set k m) := by
  rcases h.2 with ⟨hv, h0⟩ | ⟨g, cap, cur, hv, h1, h2, h3, h4, h5, h6⟩
  · omega
  · simp only [Value.slice.injEq] at hv
    obtain ⟨rfl, rfl, rfl⟩ := hv
    have hkc : k < cur.size := by omega
    refine ⟨g, rfl, ⟨cur[k], cellOf h2 (by simp [hkc])⟩, frozenOf h2, ?_⟩
    unfold OI
    rw [List.length_set, List.map_set]
    refine ⟨by simp, .inr ⟨g, c, _, rfl, h1, heap_setCell_at _ h2, h3, h4, by simpa using h5, ?_⟩⟩
    simp only [Array.toList_setIfInBounds, List.take_set]
    rw [h6]

theorem Herd.putL {W w : World} {xs : List ((Nat → Nat) × Thing)} (H : Herd W w xs) (i : Nat) {K : Nat → Nat} {a : Option Addr} {n c : Nat} {l : List Int} (hi : xs[i]? = some (K, tl (.slice a n c) l)) {k : Nat} (hk : k < l.length) (m : Int) :
    ∃ g, a = some ⟨g, 0, none⟩ ∧ (∃ u, w.cell? ⟨g, k, none⟩ = some u) ∧ w.frozen? ⟨g, k, none⟩ = false ∧ K g ≠ 0 ∧ Herd W (w.setCell ⟨g, k, none⟩ (.int .i64 m)) (xs.set i (K, tl (.slice a n c) (l.set k m))) := by
  have h : (tl (.slice a n c) l).P w K := H.rep i _ hi
  obtain ⟨g, rfl, h1, h2, h3⟩ := h.1.put hk m
  have hg : K g ≠ 0 := h.2.1 g rfl
  refine ⟨g, rfl, h1, h2, hg, H.op i hi (x' := tl (.slice (some ⟨g, 0, none⟩) n c) (l.set k m)) ⟨h3, h.2.1, fun k hk => by rw [size_setCell]; exact h.2.2 k hk⟩ ⟨rfl, rfl, rfl, by rw [size_setCell]; exact Nat.le_refl _, fun b _ h0 => setCell_others _ _ _ _ _ (fun e => hg (by rw [← e]; exact h0)), fun _ _ => rfl⟩⟩

def Grew (w w' : World) (v v' : Value) : Prop := (v'.ownBlock = some w.heap.size ∧ Below w.heap.size w w') ∨ (v'.ownBlock = v.ownBlock ∧ w.grownBy w' v.ownBlock)

theorem run_app1 {P : Program} (w : World) (base : Nat) (t ty e : TypeId) (i : TypeInfo) (ht : P.underlying t = some (.slice e)) (hi : P.info? e = some i) (z : Value) (bytes : Nat) (hz : i.zero = some z) (hs : i.size = 1) (hby : i.bytes = bytes) (hzs : z.cells.size = 1)
    (v : Value) (n : Nat) (xs : List Value) (hown : w.ownsRow base e 1 v n xs) (a : Addr) (c : Nat) (x : Value) (hx : ∀ j u, [x][j]? = some u → w.cell? (a.add j) = some u) (h1 : x.oneCell' = true) (hb : (n + 1) * bytes ≤ 140737488355328) (hnm : n + 1 ≤ 1000000000000) (hbase : base ≤ w.heap.size) :
    ∃ v' w', (Builtin.append_ #[t, t] ty #[v, .slice (some a) 1 c]).run P w = .ok v' w' ∧ w'.ownsRow base e 1 v' (n + 1) (xs ++ [x]) ∧ Grew w w' v v' := by
  obtain ⟨v', w', hr, ho, hg, _, hl⟩ := run_append_own_at (P := P) w base t ty e i z 1 bytes ht hi hz hs hby hzs (by omega) v n xs hown a 1 c [x] rfl hx (fun u hu => by rw [List.mem_singleton.1 hu]; exact h1) (by unfold maxLen; omega) hb hbase
  refine ⟨v', w', hr, ho, ?_⟩
  rcases hown.2 with ⟨hv, hn⟩ | ⟨g, cap, cur, hv, hbg, hgc, hnc, hcm, hcs, htake⟩
  · subst hv hn
    refine .inl ⟨hl.elim (fun e => ?_) id, hg.os, hg.tape, hg.output, hg.size, fun k hk => hg.block k hk (by simp [Value.ownBlock])⟩
    exfalso
    rcases ho.2 with ⟨hv', h0⟩ | ⟨g, cap, cur, hv', _⟩
    · omega
    · rw [hv'] at e
      simp [Value.ownBlock] at e
  · subst hv
    by_cases hroom : n + 1 ≤ cap
    · refine .inr ⟨?_, hg⟩
      have hfit : n * i.size + [x].length ≤ cur.size := by rw [hs]; simp; omega
      have hr2 := run_append_room (P := P) w t ty e i ht hi g n cap cur hgc a 1 c [x] (by rw [hs]; rfl) hx (fun u hu => by rw [List.mem_singleton.1 hu]; exact h1) hroom hfit
      rw [hr] at hr2
      injection hr2 with hv2 _
      rw [hv2]
      rfl
    · have holds : ∀ j u, xs[j]? = some u → w.cell? ((⟨g, 0, none⟩ : Addr).add j) = some u := hown.cells (g := g) rfl
      have hr2 := run_append_grow (P := P) w t ty e i z ht hi hz ⟨g, 0, none⟩ n cap xs (by rw [hs]; exact hown.1) (by simpa [hs] using holds) a 1 c [x] (by rw [hs]; rfl) hx (by omega) (by omega) (by rw [hby]; exact growslice_fits (by omega) hb)
      rw [hr] at hr2
      injection hr2 with hv2 hw2
      subst hv2 hw2
      exact .inl ⟨rfl, (Below.refl _ _).drew.alloc (Nat.le_refl _) _⟩

theorem wpList_app1 {P : Program} {w : World} {ops : Array Oper} {rest : List Oper} {o : Oper} {a : Act} {Q : Exit → Act → World → Prop} (hgd : o.guard = none) (s x : Operand) (t : TypeId)
    (ho : o.op = .call { callee := .builtin .append, args := #[s, x], argTypes := #[t, t] }) (base : Nat) (e : TypeId) (i : TypeInfo) (ht : P.underlying t = some (.slice e)) (hi : P.info? e = some i) (z : Value) (bytes : Nat) (hz : i.zero = some z) (hs : i.size = 1) (hby : i.bytes = bytes) (hzs : z.cells.size = 1)
    (v : Value) (n : Nat) (xs : List Value) (hv : a.eval s = v) (hown : w.ownsRow base e 1 v n xs) (ad : Addr) (c : Nat) (u : Value) (hx : a.eval x = .slice (some ad) 1 c) (hu : ∀ j u', [u][j]? = some u' → w.cell? (ad.add j) = some u') (h1 : u.oneCell' = true)
    (hb : (n + 1) * bytes ≤ 140737488355328) (hnm : n + 1 ≤ 1000000000000) (hbase : base ≤ w.heap.size)
    (h : ∀ v' w', w'.ownsRow base e 1 v' (n + 1) (xs ++ [u]) → Grew w w' v v' → wpList P ops Q rest (a.put o.dst v') w') : wpList P ops Q (o :: rest) a w := by
  refine wpList_plain hgd fun K hK => ?_
  obtain ⟨v', w', hr, h2, h3⟩ := run_app1 (P := P) w base t o.type e i ht hi z bytes hz hs hby hzs v n xs hown ad c u hu h1 hb hnm hbase
  unfold Oper.wp
  simp [execOp, ho, resolve, invoke, builtin, hv, hx, hr, Result.andThen]
  exact hK _ _ (h v' w' h2 h3)
/-- A slice that begins a block, or none. -/
def Z (v : Value) : Prop := ∃ a n c, v = .slice a n c ∧ ∀ x, a = some x → ∃ g, x = ⟨g, 0, none⟩

theorem OI.z {w : World} {B : Nat} {v : Value} {l : List Int} (h : OI w B v l) : Z v := by
  rcases h.2 with ⟨rfl, _⟩ | ⟨g, cap, cur, rfl, _⟩
  · exact ⟨_, _, _, rfl, fun x hx => by cases hx⟩
  · exact ⟨_, _, _, rfl, fun x hx => by cases hx; exact ⟨g, rfl⟩⟩

theorem SI.keep {w w' : World} {v : Value} {l : List Int} (h : SI w v l) (hb : ∀ k, v.ownBlock = some k → w'.heap[k]? = w.heap[k]?) : SI w' v l :=
  h.move fun x u hx ho => by
    have := hb x.block ho
    unfold World.cell? at hx ⊢
    rw [this]; exact hx

/-- A list and what was made of it by appending. -/
def tpair (v : Value) (l : List Int) (vm : Value) (r : List Int) : Thing :=
  ⟨fun w K => SI w v l ∧ OI w 0 vm (l ++ r) ∧ (∀ k, v.ownBlock = some k → K k ≠ 0) ∧ (∀ k, vm.ownBlock = some k → K k ≠ 0) ∧ Z v ∧ ∀ k, K k ≠ 0 → k < w.heap.size,
   fun h a b => ⟨h.1.keep fun k hk => b k (h.2.2.1 k hk), h.2.1.move fun k hk => b k (h.2.2.2.1 k hk), h.2.2.1, h.2.2.2.1, h.2.2.2.2.1, fun k hk => Nat.lt_of_lt_of_le (h.2.2.2.2.2 k hk) a⟩, fun h => h.2.2.2.2.2⟩

theorem Herd.pair {W w : World} {xs : List ((Nat → Nat) × Thing)} (H : Herd W w xs) (i : Nat) {K : Nat → Nat} {v : Value} {l : List Int} (hi : xs[i]? = some (K, tl v l)) : Herd W w (xs.set i (K, tpair v l v [])) := by
  have h : (tl v l).P w K := H.rep i _ hi
  exact H.op i hi (x' := tpair v l v []) ⟨h.1.sb, by rw [List.append_nil]; exact h.1, h.2.1, h.2.1, h.1.z, h.2.2⟩ (Fr.refl _ _)

theorem OI.prefix {w w' : World} {B' : Nat} {v v' : Value} {l r : List Int} (h : SI w v l) (h' : OI w' B' v' (l ++ r)) (h0 : Z v) (he : v'.ownBlock = v.ownBlock) : SI w' v l := by
  obtain ⟨a, n, c, rfl, h0⟩ := h0
  obtain ⟨ao, cap, hv, h1, h2, h3, h4⟩ := h
  simp only [Value.slice.injEq] at hv
  obtain ⟨rfl, rfl, rfl⟩ := hv
  refine ⟨a, c, rfl, h1, h2, h3, fun x hx i hi => ?_⟩
  subst hx
  obtain ⟨g, rfl⟩ := h0 x rfl
  exact @World.ownsRow.cells _ _ _ _ _ _ _ h' (g := g) (by rw [he]; rfl) i (.int .i64 (l.getD i 0)) (by rw [List.map_append, List.getElem?_append_left (by simpa using hi)]; simp [hi, List.getD])

theorem Grew.frame {w w' : World} {o : Obj} {v v' : Value} (h : Grew (w.alloc o) w' v v') : w'.os = w.os ∧ w'.tape = w.tape ∧ w'.output = w.output ∧ w.heap.size ≤ w'.heap.size ∧ (∀ k, k < w.heap.size → v.ownBlock ≠ some k → w'.heap[k]? = w.heap[k]?) ∧ (v'.ownBlock = v.ownBlock ∨ v'.ownBlock = some (w.heap.size + 1) ∧ ∀ k, k < w.heap.size → w'.heap[k]? = w.heap[k]?) := by
  rcases h with ⟨h1, hb⟩ | ⟨h1, hg⟩
  · have hs := hb.size
    rw [size_alloc'] at hs h1
    have hk : ∀ k, k < w.heap.size → w'.heap[k]? = w.heap[k]? := fun k hk => (hb.block k (by rw [size_alloc']; omega)).trans (Below.heap_alloc _ _ k hk)
    exact ⟨hb.os, hb.tape, hb.output, by omega, fun k h _ => hk k h, .inr ⟨h1, hk⟩⟩
  · have hs := hg.size
    rw [size_alloc'] at hs
    exact ⟨hg.os, hg.tape, hg.output, by omega, fun k hk hn => (hg.block k (by rw [size_alloc']; omega) (fun e => hn e.symm)).trans (Below.heap_alloc _ _ k hk), .inl h1⟩

def addK (K : Nat → Nat) (n : Nat) (v : Value) : Nat → Nat := fun k => if k < n then K k else if v.ownBlock = some k then 1 else 0

theorem addK_own {K : Nat → Nat} {w : World} {v v' : Value} (hv : ∀ k, v.ownBlock = some k → K k ≠ 0) (hat : v'.ownBlock = v.ownBlock ∨ v'.ownBlock = some (w.heap.size + 1)) : ∀ k, v'.ownBlock = some k → addK K w.heap.size v' k ≠ 0 := fun k hk => by
  unfold addK
  by_cases hkl : k < w.heap.size
  · simp only [if_pos hkl]
    rcases hat with e | e
    · exact hv k (e.symm.trans hk)
    · rw [hk] at e; simp at e; omega
  · simp [hkl, hk]

theorem addK_sup {K : Nat → Nat} {w w' : World} {v' : Value} (hs : w.heap.size ≤ w'.heap.size) (hlt : ∀ k, v'.ownBlock = some k → k < w'.heap.size) : ∀ k, addK K w.heap.size v' k ≠ 0 → k < w'.heap.size := fun k hk => by
  unfold addK at hk
  by_cases hkl : k < w.heap.size
  · omega
  · simp only [if_neg hkl] at hk
    by_cases e : v'.ownBlock = some k
    · exact hlt k e
    · simp [e] at hk

theorem Herd.appP {W w w' : World} {xs : List ((Nat → Nat) × Thing)} (H : Herd W w xs) (i : Nat) {K : Nat → Nat} {v vm v' : Value} {l r : List Int} {x : Int} (hi : xs[i]? = some (K, tpair v l vm r)) {o : Obj}
    (hown : w'.ownsRow 0 3 1 v' ((l ++ r).length + 1) ((l ++ r).map (Value.int .i64) ++ [.int .i64 x])) (hgrew : Grew (w.alloc o) w' vm v') : ∃ K', Herd W w' (xs.set i (K', tpair v l v' (r ++ [x]))) := by
  have h : (tpair v l vm r).P w K := H.rep i _ hi
  obtain ⟨h1, h2, h3, h4, h5, h6⟩ := h
  obtain ⟨f1, f2, f3, f4, f5, f6⟩ := hgrew.frame
  have hlt : ∀ k, v'.ownBlock = some k → k < w'.heap.size := row_lt hown
  have hat : v'.ownBlock = vm.ownBlock ∨ v'.ownBlock = some (w.heap.size + 1) := f6.imp id (·.1)
  have hO : OI w' 0 v' (l ++ (r ++ [x])) := by
    rw [← List.append_assoc]
    unfold OI; rw [List.length_append, List.map_append]; exact hown
  refine ⟨addK K w.heap.size v', H.op i hi (x' := tpair v l v' (r ++ [x])) ⟨?_, hO, fun k hk => ?_, addK_own h4 hat, h5, addK_sup f4 hlt⟩ ⟨f1, f2, f3, f4, fun k hk h0 => f5 k hk (fun e => h4 k e h0), fun k hk => by simp only [addK, if_pos hk]⟩⟩
  · rcases f6 with e | ⟨_, e⟩
    · by_cases hv : v.ownBlock = vm.ownBlock
      · exact OI.prefix h1 hO h5 (e.trans hv.symm)
      · refine h1.keep fun k hk => f5 k (h6 k (h3 k hk)) (fun e2 => hv (hk.trans e2.symm))
    · exact h1.keep fun k hk => e k (h6 k (h3 k hk))
  · have := h6 k (h3 k hk)
    simp only [addK, if_pos this]
    exact h3 k hk

theorem wpList_pair {W w : World} {ops : Array Oper} {rest : List Oper} {o : Oper} {a : Act} {Q : Exit → Act → World → Prop} (hgd : o.guard = none) (s x : Operand)
    (ho : o.op = .call { callee := .builtin .append, args := #[s, x], argTypes := #[22, 22] }) {xs : List ((Nat → Nat) × Thing)} (H : Herd W w xs) (i : Nat) {K : Nat → Nat} {v vm : Value} {l r : List Int} (hi : xs[i]? = some (K, tpair v l vm r)) (y : Int)
    (c : Nat) (hs : a.eval s = vm) (hx : a.eval x = .slice (some ⟨w.heap.size, 0, none⟩) 1 c) (hn : (l ++ r).length ≤ 100000000000)
    (h : ∀ ad cap w' K', Herd W w' (xs.set i (K', tpair v l (.slice ad ((l ++ r).length + 1) cap) (r ++ [y]))) → wpList Try.prog ops Q rest (a.put o.dst (.slice ad ((l ++ r).length + 1) cap)) w') :
    wpList Try.prog ops Q (o :: rest) a (w.alloc (.cells #[.int .i64 y] 3)) := by
  obtain ⟨i0, hi0, hz0, hz1, hz2⟩ := info_parts infoInt
  have hp : (tpair v l vm r).P w K := H.rep i _ hi
  have hr : w.ownsRow 0 3 1 vm (l ++ r).length ((l ++ r).map (Value.int .i64)) := hp.2.1
  refine wpList_app1 hgd s x 22 ho 0 3 i0 Try.underlying22 hi0 _ 8 hz0 hz1 hz2 rfl vm _ _ hs (hr.alloc _) ⟨w.heap.size, 0, none⟩ c (.int .i64 y) hx (World.news_of_block (cs := #[.int .i64 y]) (t := 3) (fr := (0, 0)) (heap_alloc_new w _)) rfl (by omega) (by omega) (Nat.zero_le _) ?_
  intro v' w' hown hgrew
  obtain ⟨K', H'⟩ := H.appP i hi hown hgrew
  obtain ⟨ad, cap, rfl⟩ := row_shape hown
  exact h ad cap w' K' H'

/-- A list of lists. -/
def trow (v : Value) (vs : List Value) : Thing :=
  ⟨fun w K => w.ownsRow 0 22 1 v vs.length vs ∧ (∀ k, v.ownBlock = some k → K k ≠ 0) ∧ ∀ k, K k ≠ 0 → k < w.heap.size,
   fun h a b => ⟨row_move h.1 fun k hk => b k (h.2.1 k hk), h.2.1, fun k hk => Nat.lt_of_lt_of_le (h.2.2 k hk) a⟩, fun h => h.2.2⟩

theorem infoInts : (Try.prog.info? 22).map (fun i => (i.zero, i.size, i.bytes)) = some (some (.slice none 0 0), 1, 24) := by kernel_rfl

theorem wpList_row {W w : World} {ops : Array Oper} {rest : List Oper} {o : Oper} {a : Act} {Q : Exit → Act → World → Prop} (hgd : o.guard = none) (s x : Operand)
    (ho : o.op = .call { callee := .builtin .append, args := #[s, x], argTypes := #[46, 46] }) {xs : List ((Nat → Nat) × Thing)} (H : Herd W w xs) (i : Nat) {K : Nat → Nat} {v : Value} {vs : List Value} (hi : xs[i]? = some (K, trow v vs)) (y : Value) (hy : y.oneCell' = true)
    (c : Nat) (hs : a.eval s = v) (hx : a.eval x = .slice (some ⟨w.heap.size, 0, none⟩) 1 c) (hn : vs.length ≤ 1000)
    (h : ∀ ad cap w' K', Herd W w' (xs.set i (K', trow (.slice ad (vs.length + 1) cap) (vs ++ [y]))) → wpList Try.prog ops Q rest (a.put o.dst (.slice ad (vs.length + 1) cap)) w') :
    wpList Try.prog ops Q (o :: rest) a (w.alloc (.cells #[y] 22)) := by
  obtain ⟨i0, hi0, hz0, hz1, hz2⟩ := info_parts infoInts
  have hp : (trow v vs).P w K := H.rep i _ hi
  refine wpList_app1 hgd s x 46 ho 0 22 i0 Try.underlying46 hi0 _ 24 hz0 hz1 hz2 rfl v _ _ hs (hp.1.alloc _) ⟨w.heap.size, 0, none⟩ c y hx (World.news_of_block (cs := #[y]) (t := 22) (fr := (0, 0)) (heap_alloc_new w _)) hy (by omega) (by omega) (Nat.zero_le _) ?_
  intro v' w' hown hgrew
  obtain ⟨f1, f2, f3, f4, f5, f6⟩ := hgrew.frame
  obtain ⟨ad, cap, rfl⟩ := row_shape hown
  have hlt := row_lt hown
  refine h ad cap w' (addK K w.heap.size _) (H.op i hi (x' := trow _ (vs ++ [y])) ⟨by rw [List.length_append]; exact hown, addK_own hp.2.1 (f6.imp id (·.1)), addK_sup f4 hlt⟩ ⟨f1, f2, f3, f4, fun k hk h0 => f5 k hk (fun e => hp.2.1 k e h0), fun k hk => by simp only [addK, if_pos hk]⟩)

end Go.Proofs.Ytjhgjohnfkgleab
