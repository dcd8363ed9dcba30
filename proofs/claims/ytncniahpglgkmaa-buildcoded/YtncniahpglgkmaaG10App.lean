import Derived.Test.YtncniahpglgkmaaG09Base
import Derived.Maps.AppendAt
import Derived.Deep.AppendSrc
import Derived.Deep.AppendLies
import Derived.Deep.RegionLaw
namespace Go.Proofs.Ytncniahpglgkmaa
open Go.RowKit

theorem sizeByte : (Try.prog.info? 5).map (·.size) = some 1 := by kernel_rfl

theorem slicesClone_any (v : Value) (l : List Int) (w : World) (h : SB w v l) (hr : l.length ≤ 140737488351232) :
    Calls Try.prog 37 #[v] w fun e w' => ∃ a c, e = .returned (.slice a l.length c) ∧ OB w' w.heap.size (.slice a l.length c) l ∧ Below w.heap.size w w' := by
  obtain ⟨ao, cap, rfl, hlc, hcm, hnil, hcell⟩ := h
  obtain ⟨i0, hi, hz0, hz1, hz2⟩ := info_parts info5
  have he := fun (w : World) (a : Option Addr) (n c : Nat) => Lib.run_eql_slice_nil (P := Try.prog) w 22 5 a n c 0 0 Try.underlying22
  cases ao with
  | none =>
    obtain rfl : cap = 0 := hnil rfl
    obtain rfl : l = [] := List.eq_nil_of_length_eq_zero (by omega)
    go_enter Try.func37, Try.ntmps37
    go_wp2
    go_ret
    exact ⟨_, _, rfl, World.ownsRow_nil _ _ _ _, Below.refl _ _⟩
  | some x =>
    go_enter Try.func37, Try.ntmps37
    obtain ⟨cs, hcs⟩ : ∃ cs, cs = l.map (Value.int .u8) := ⟨_, rfl⟩
    have HS : Hid (cs = l.map (Value.int .u8)) := hcs
    clear hcs
    have O1 : Hid ((w.alloc (.cells #[] 5)).ownsRow w.heap.size 5 1 (.slice (some ⟨w.heap.size, 0, none⟩) 0 0) 0 []) := World.ownsRow_made w #[] 0 (Nat.le_refl _) (Nat.zero_le _) rfl
    have C1 : Hid (cs.length = l.length * 1) := by show _ = _; rw [HS.out]; simp
    have C2 : Hid (∀ j v, cs[j]? = some v → (w.alloc (.cells #[] 5)).cell? (x.add j) = some v) := by
      intro j u hj
      rw [HS.out] at hj
      obtain ⟨hjl, rfl⟩ := List.getElem?_eq_some_iff.1 hj
      have hjl' : j < l.length := by simpa using hjl
      have hc := hcell x rfl j hjl'
      rw [((Below.refl _ _).alloc (Nat.le_refl _) _).cell (by have := World.block_lt_of_cell? _ _ hc; exact this), hc]
      simp [hjl']
    have C4 : Hid (∀ v ∈ cs, v.oneCell' = true) := by rw [HS.out]; intro u hu; obtain ⟨n, _, rfl⟩ := List.mem_map.1 hu; rfl
    clear hcell hnil
    go_wp2_with (at_builtin; refine wpList_append_own _ rfl _ _ 22 rfl w.heap.size 5 i0 (.int .u8 0) 1 1 Try.underlying22 hi hz0 hz1 hz2 rfl (by decide) _ 0 [] rfl O1.out x l.length cap cs rfl C1.out C2.out C4.out (by unfold maxLen; omega) (by omega) (by simp) ?_)
    intro v' w1 hown hgrow _
    have HF : Hid (OB w1 w.heap.size v' l) := by
      have h := hown
      rw [HS.out] at h
      exact show OB _ _ _ _ by simpa [OB] using h
    have hb : Below w.heap.size w w1 := ((Below.refl _ _).alloc (Nat.le_refl _) _).grown hgrow (by simp) (fun k hk => by simp [Value.ownBlock] at hk; omega)
    clear hown hgrow
    go_wp2
    go_ret
    obtain ⟨a, c, hv⟩ := HF.out.shape
    rw [hv] at HF ⊢
    exact ⟨a, c, rfl, HF.out, hb⟩

def eqB (l1 l2 : List Int) : Bool := decide (l1 = l2)

end Go.Proofs.Ytncniahpglgkmaa

namespace Go.Proofs.Ytncniahpglgkmaa
open Go.RowKit Go.Maps

/-- What an append does: nothing, or a new block, or its own block written. -/
def Grew (w w' : World) (v v' : Value) : Prop := (v' = v ∧ w' = w) ∨ (v'.ownBlock = some w.heap.size ∧ Below w.heap.size w w') ∨ (v'.ownBlock = v.ownBlock ∧ w'.heap.size = w.heap.size ∧ w.grownBy w' v.ownBlock)

theorem run_app_none (w : World) (tx ty : TypeId) (i : TypeInfo) (hi : Try.prog.info? 5 = some i) (x : Value) (hs : Src Try.prog i.size tx x 0 [] w) :
    (Builtin.append_ #[22, tx] ty #[.slice none 0 0, x]).run Try.prog w = .ok (.slice none 0 0) w := by
  rcases hs.kind with ⟨e', hk⟩ | hk <;> simp [Builtin.append_, run_underlying Try.underlying22, run_underlying hk, sizeOf, typeInfo, hi, hs.len, hs.cells]

theorem run_app (w : World) (base : Nat) (tx ty : TypeId) (v x : Value) (l news : List Int) (hown : OB w base v l) (hs : Src Try.prog 1 tx x news.length (news.map (Value.int .u8)) w)
    (hb : l.length + news.length ≤ 140737488355328) (hbase : base ≤ w.heap.size) :
    ∃ v' w', (Builtin.append_ #[22, tx] ty #[v, x]).run Try.prog w = .ok v' w' ∧ OB w' base v' (l ++ news) ∧ Grew w w' v v' := by
  obtain ⟨i, hi, hz, hsz, hby⟩ := info_parts info5
  have hs' : Src Try.prog i.size tx x news.length (news.map (Value.int .u8)) w := by rw [hsz]; exact hs
  have hmx : l.length + news.length ≤ maxLen := by unfold maxLen; omega
  have grown : ∀ old, old < l.length + news.length → (OB (w.drew.alloc (.cells ((l.map (Value.int .u8) ++ news.map (Value.int .u8)).toArray ++ Builtin.zeroCells (Value.int .u8 0).cells (grownCap w (l.length + news.length) old 5 - (l.length + news.length))) 5)) base
      (.slice (some ⟨w.heap.size, 0, none⟩) (l.length + news.length) (grownCap w (l.length + news.length) old 5)) (l ++ news)) := by
    intro old ho
    have hge := grownCap_ge w (l.length + news.length) old 5
    have hcm : grownCap w (l.length + news.length) old 5 ≤ maxLen := grownCap_le_maxLen w (l.length + news.length) old 5 hmx
    refine ⟨by simp, .inr ⟨w.heap.size, grownCap w (l.length + news.length) old 5, _, by rw [List.length_append], hbase, heap_alloc_new w.drew _, by rw [List.length_append]; exact hge, hcm, ?_, ?_⟩⟩
    · simp only [Array.size_append, List.size_toArray, List.length_append, List.length_map, size_zeroCells, Value.cells]
      simp
      omega
    · simp only [Array.toList_append, List.map_append]
      rw [List.take_append_of_le_length (by simp)]
      exact List.take_of_length_le (by simp)
  rcases hown.2 with ⟨rfl, h0⟩ | ⟨g, cap, cur, rfl, hbg, hg, hnc, hcm, hcs, htake⟩
  · obtain rfl : l = [] := List.eq_nil_of_length_eq_zero h0
    by_cases hm : news = []
    · subst hm
      exact ⟨_, _, run_app_none w tx ty i hi x hs', hown, .inl ⟨rfl, rfl⟩⟩
    · have hpos : 0 < news.length := List.length_pos_iff.2 hm
      have hr := run_append_grow_src (P := Try.prog) w 22 tx ty 5 i (.int .u8 0) Try.underlying22 hi hz none 0 0 [] (run_firstCells_none w.drew i.size 0 0 0) x news.length _ hs' (by omega) (by omega) (by rw [hby]; exact growslice_fits (by omega) (by simp at hb ⊢; omega))
      have hgr := grown 0 (by simp; omega)
      simp only [List.length_nil, Nat.zero_add, List.map_nil, List.nil_append] at hgr hr ⊢
      exact ⟨_, _, hr, hgr, .inr (.inl ⟨rfl, (Below.refl _ _).drew.alloc (Nat.le_refl _) _⟩)⟩
  · by_cases hroom : l.length + news.length ≤ cap
    · have hfit : l.length * i.size + (news.map (Value.int .u8)).length ≤ cur.size := by rw [hsz, hcs]; simp; omega
      have hst := run_storeCells_at Try.prog g (l.length * i.size) 5 (news.map (Value.int .u8)) 0 cur w hg (by simpa using hfit) hs.one
      simp only [Nat.add_zero] at hst
      have hr : (Builtin.append_ #[22, tx] ty #[.slice (some ⟨g, 0, none⟩) l.length cap, x]).run Try.prog w =
          .ok (.slice (some ⟨g, 0, none⟩) (l.length + news.length) cap) (w.setRow g (cur.toList.take (l.length * i.size) ++ news.map (Value.int .u8) ++ cur.toList.drop (l.length * i.size + (news.map (Value.int .u8)).length)).toArray) := by
        rcases hs'.kind with ⟨e', hk⟩ | hk <;> simp [Builtin.append_, run_underlying Try.underlying22, run_underlying hk, sizeOf, typeInfo, hi, hs'.len, hroom, hs'.cells, Addr.add_lit, hst]
      refine ⟨_, _, hr, ⟨by simp, .inr ⟨g, cap, _, by rw [List.length_append], hbg, setRow_heap w g cur _ 5 _ hg, by rw [List.length_append]; exact hroom, hcm, ?_, ?_⟩⟩, .inr (.inr ⟨rfl, by simp [World.setRow], ⟨rfl, rfl, rfl, by simp, fun k _ hk => setRow_other w g k _ (fun e => hk (by simp [Value.ownBlock, e]))⟩⟩)⟩
      · rw [hsz]
        simp only [List.size_toArray, List.length_append, List.length_take, List.length_drop, Array.length_toList, List.length_map]
        omega
      · rw [hsz, htake]
        simp only [List.map_append]
        rw [List.take_append_of_le_length (by simp)]
        exact List.take_of_length_le (by simp)
    · have holds : ∀ j u, (l.map (Value.int .u8))[j]? = some u → w.drew.cell? ((⟨g, 0, none⟩ : Addr).add j) = some u := World.ownsRow.cells hown (g := g) rfl
      have hr := run_append_grow_src (P := Try.prog) w 22 tx ty 5 i (.int .u8 0) Try.underlying22 hi hz (some ⟨g, 0, none⟩) l.length cap (l.map (Value.int .u8)) (run_firstCells_some w.drew i.size l.length ⟨g, 0, none⟩ l.length cap _ (by rw [hsz]; simp) holds) x news.length _ hs' (by omega) (by omega) (by rw [hby]; exact growslice_fits (by omega) (by omega))
      exact ⟨_, _, hr, grown cap (by omega), .inr (.inl ⟨rfl, (Below.refl _ _).drew.alloc (Nat.le_refl _) _⟩)⟩

theorem wpList_app {w : World} {ops : Array Oper} {rest : List Oper} {o : Oper} {a : Act} {Q : Exit → Act → World → Prop} (hgd : o.guard = none) (s x : Operand) (tx : TypeId)
    (ho : o.op = .call { callee := .builtin .append, args := #[s, x], argTypes := #[22, tx] }) (base : Nat) (v xv : Value) (l news : List Int) (hv : a.eval s = v) (hown : OB w base v l) (hx : a.eval x = xv) (hs : Src Try.prog 1 tx xv news.length (news.map (Value.int .u8)) w)
    (hb : l.length + news.length ≤ 140737488355328) (hbase : base ≤ w.heap.size)
    (h : ∀ v' w', OB w' base v' (l ++ news) → Grew w w' v v' → wpList Try.prog ops Q rest (a.put o.dst v') w') : wpList Try.prog ops Q (o :: rest) a w := by
  refine wpList_plain hgd fun K hK => ?_
  obtain ⟨v', w', hr, h2, h3⟩ := run_app w base tx o.type v xv l news hown hs hb hbase
  unfold Oper.wp
  simp [execOp, ho, resolve, invoke, builtin, hv, hx, hr, Result.andThen]
  exact hK _ _ (h v' w' h2 h3)

theorem SB.src {w : World} {v : Value} {l : List Int} (h : SB w v l) : Src Try.prog 1 22 v l.length (l.map (Value.int .u8)) w := by
  obtain ⟨ao, cap, rfl, h1, h2, h3, h4⟩ := h
  cases ao with
  | none =>
    have hc := h3 rfl
    obtain rfl : l = [] := List.eq_nil_of_length_eq_zero (by omega)
    exact Src.ofNil w Try.underlying22 cap
  | some a =>
    refine Src.ofSlice w Try.underlying22 a l.length cap _ (by simp) (fun j u hj => ?_) (fun u hu => by obtain ⟨n, _, rfl⟩ := List.mem_map.1 hu; rfl)
    obtain ⟨hjl, rfl⟩ := List.getElem?_eq_some_iff.1 hj
    have hjl' : j < l.length := by simpa using hjl
    rw [h4 a rfl j hjl']
    simp [hjl']

theorem heap_setCell_at {w : World} {g k : Nat} {cur : Array Value} {t : TypeId} (u : Value) (h : w.heap[g]? = some (.cells cur t (0, 0))) : (w.setCell ⟨g, k, none⟩ u).heap[g]? = some (.cells (cur.setIfInBounds k u) t (0, 0)) := by
  simp [World.setCell, Array.getElem?_modify, h]

theorem set_front (m : Value) (L : List Value) (k : Nat) (h : k < L.length) : ((List.replicate k m ++ L.drop k).toArray.setIfInBounds k m) = (List.replicate (k + 1) m ++ L.drop (k + 1)).toArray := by
  apply Array.ext'
  simp only [Array.toList_setIfInBounds]
  rw [List.set_append_right _ _ (by simp)]
  have e : L.drop k = L[k] :: L.drop (k + 1) := List.drop_eq_getElem_cons h
  have e2 : (L.drop k).set 0 m = m :: L.drop (k + 1) := by rw [e]; rfl
  simp [List.replicate_succ', e2]

theorem grownBy_set {w : World} {g k : Nat} {u : Value} {r : Option Nat} (hr : r = some g) : w.grownBy (w.setCell ⟨g, k, none⟩ u) r :=
  ⟨rfl, rfl, rfl, by rw [size_setCell]; exact Nat.le_refl _, fun i _ hi => setCell_others w g k u i (fun e => hi (by rw [hr, e]))⟩

theorem grownBy_drew {w w' : World} {r : Option Nat} (h : w.grownBy w' r) : w.grownBy w'.drew r := ⟨h.os, h.tape, h.output, h.size, h.block⟩

theorem grownBy_alloc' (w : World) (o : Obj) (r : Option Nat) : w.grownBy (w.alloc o) r :=
  ⟨rfl, rfl, rfl, by simp, fun k hk _ => Below.heap_alloc w o k hk⟩

/-- A block that was not there may be written. -/
theorem grownBy_new {w w' : World} {r : Option Nat} {g o : Nat} {u : Value} (h : w.grownBy w' r) (hg : w.heap.size ≤ g) : w.grownBy (w'.setCell ⟨g, o, none⟩ u) r :=
  ⟨h.os, h.tape, h.output, by rw [size_setCell]; exact h.size, fun k hk hr => (setCell_others w' g o u k (by omega)).trans (h.block k hk hr)⟩

theorem Grew.by {w w' : World} {v v' : Value} (h : Grew w w' v v') : w.grownBy w' v.ownBlock := by
  rcases h with ⟨_, rfl⟩ | ⟨_, hb⟩ | ⟨_, _, hg⟩
  · exact World.grownBy.refl _ _
  · exact ⟨hb.os, hb.tape, hb.output, hb.size, fun k hk _ => hb.block k hk⟩
  · exact hg

theorem Grew.at {w w' : World} {v v' : Value} (h : Grew w w' v v') : v'.ownBlock = some w.heap.size ∨ v'.ownBlock = v.ownBlock := by
  rcases h with ⟨rfl, _⟩ | ⟨h, _⟩ | ⟨h, _⟩
  · exact .inr rfl
  · exact .inl h
  · exact .inr h

theorem built_src (w : World) (cs : List Int) : Src Try.prog 1 22 (.slice (some ⟨w.heap.size, 0, none⟩) cs.length cs.length) cs.length (cs.map (Value.int .u8)) (w.alloc (.cells (cs.map (Value.int .u8)).toArray 5)) := by
  refine Src.ofSlice _ Try.underlying22 _ _ _ _ (by simp) (fun j u hj => ?_) (fun u hu => by obtain ⟨n, _, rfl⟩ := List.mem_map.1 hu; rfl)
  have e := heap_alloc_new w (.cells (cs.map (Value.int .u8)).toArray 5)
  rw [Addr.add_lit]
  unfold World.cell?
  simp only [e, Nat.zero_add]
  simpa using hj

theorem OB.alloc {w : World} {base : Nat} {v : Value} {l : List Int} (h : OB w base v l) (o : Obj) : OB (w.alloc o) base v l := h.move fun k hk => Below.heap_alloc w o k (h.lt k hk).2

theorem wpList_mk {w : World} {ops : Array Oper} {rest : List Oper} {o : Oper} {a : Act} {Q : Exit → Act → World → Prop} (hg : o.guard = none) (l c : Operand) (hop : o.op = Op.makeSlice 22 l c)
    (kl kc : IntKind) (L C : Int) (n m : Nat) (hl : a.eval l = .int kl L) (hc : a.eval c = .int kc C) (hL : L = (n : Int)) (hC : C = (m : Int)) (hnm : n ≤ m) (b2 : m ≤ 140737488355328)
    (hK : ∀ w', w'.heap[w.heap.size]? = some (.cells (List.replicate m (Value.int .u8 0)).toArray 5 (0, 0)) → Below w.heap.size w w' → wpList Try.prog ops Q rest (a.put o.dst (.slice (some ⟨w.heap.size, 0, none⟩) n m)) w') :
    wpList Try.prog ops Q (o :: rest) a w := by
  obtain ⟨i0, hi, hz0, hz1, hz2⟩ := info_parts info5
  refine wpList_plain hg fun K hK' => ?_
  have hr := run_make (P := Try.prog) w 22 5 i0 (.int .u8 0) Try.underlying22 hi hz0 kl kc (n : Int) (m : Int) (by omega) (by omega) (by rw [hz2]; omega) (by omega)
  subst hL hC
  unfold Oper.wp
  simp [execOp, hop, hl, hc, hr, Result.andThen]
  refine hK' _ _ (hK _ ?_ ((Below.refl _ _).alloc (Nat.le_refl _) _))
  rw [heap_alloc_new, hz1, Nat.mul_one]
  have e : (madeCells (Value.int .u8 0).cells m) = (List.replicate m (Value.int .u8 0)).toArray := by
    apply Array.ext'
    exact madeBytes m
  rw [e]

theorem splice_front {α : Type} (cs : List α) (n m : Nat) (z : α) (h : cs.length = n) : splice (List.replicate (n + m) z) 0 cs = cs ++ List.replicate m z := by
  simp [splice, h]

/-- What is not one's own stays. -/
structure Fr (K K' : Nat → Nat) (w w' : World) : Prop where
  os : w'.os = w.os
  tape : w'.tape = w.tape
  output : w'.output = w.output
  size : w.heap.size ≤ w'.heap.size
  block : ∀ k, k < w.heap.size → K k = 0 → w'.heap[k]? = w.heap[k]?
  role : ∀ k, k < w.heap.size → K' k = K k

theorem Fr.refl (K : Nat → Nat) (w : World) : Fr K K w w := ⟨rfl, rfl, rfl, Nat.le_refl _, fun _ _ _ => rfl, fun _ _ => rfl⟩

theorem Fr.trans {K K' K'' : Nat → Nat} {a b c : World} (h : Fr K K' a b) (k : Fr K' K'' b c) : Fr K K'' a c :=
  ⟨k.os.trans h.os, k.tape.trans h.tape, k.output.trans h.output, Nat.le_trans h.size k.size,
   fun i hi h0 => (k.block i (Nat.lt_of_lt_of_le hi h.size) (by rw [h.role i hi]; exact h0)).trans (h.block i hi h0),
   fun i hi => (k.role i (Nat.lt_of_lt_of_le hi h.size)).trans (h.role i hi)⟩

theorem Fr.of_below {K : Nat → Nat} {w w' : World} (h : Below w.heap.size w w') : Fr K K w w' :=
  ⟨h.os, h.tape, h.output, h.size, fun k hk _ => h.block k hk, fun _ _ => rfl⟩

theorem Fr.below {K K' : Nat → Nat} {w w' : World} {B : Nat} (h : Fr K K' w w') (hu : ∀ k, K k ≠ 0 → B ≤ k) (hB : B ≤ w.heap.size) : Below B w w' :=
  ⟨h.os, h.tape, h.output, h.size, fun k hk => h.block k (by omega) (by
    by_cases hz : K k = 0
    · exact hz
    · have := hu k hz; omega)⟩

theorem Fr.up {K K' : Nat → Nat} {w w' : World} {B : Nat} (h : Fr K K' w w') (hu : ∀ k, K k ≠ 0 → B ≤ k) (hB : B ≤ w.heap.size) : ∀ k, K' k ≠ 0 → B ≤ k := by
  intro k hk
  by_cases hl : k < w.heap.size
  · exact hu k (by rw [← h.role k hl]; exact hk)
  · omega

theorem Fr.drewN {K K' : Nat → Nat} {w w' : World} (h : Fr K K' w w') (n : Nat) : Fr K K' w (w'.drewN n) := ⟨h.os, h.tape, h.output, h.size, h.block, h.role⟩

end Go.Proofs.Ytncniahpglgkmaa

