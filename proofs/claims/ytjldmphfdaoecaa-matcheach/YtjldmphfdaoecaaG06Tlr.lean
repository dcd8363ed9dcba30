import Derived.Test.YtjldmphfdaoecaaG00Tnm
import Derived.Test.YtjldmphfdaoecaaG05Bcd
import Derived.WideKeyEntry
import Derived.DeepKeys4
import Derived.MapViews
import Derived.Maps.OwnSet
namespace Go.Proofs.Ytjldmphfdaoecaa
set_option linter.unusedVariables false

def thk (D : List Int) (p : Nat) : Int × Int × Int := (D.getD p 0, D.getD (p + 1) 0, D.getD (p + 2) 0)

def plc (D : List Int) (k : Int × Int × Int) (a n : Nat) : List Nat := (List.range' a n).filter fun p => decide (thk D p = k)

theorem plc_zero (D : List Int) (k : Int × Int × Int) (a : Nat) : plc D k a 0 = [] := rfl

theorem plc_snoc (D : List Int) (k : Int × Int × Int) (a n : Nat) : plc D k a (n + 1) = plc D k a n ++ (if thk D (a + n) = k then [a + n] else []) := by
  unfold plc
  rw [List.range'_1_concat, List.filter_append]
  congr 1
  by_cases h : thk D (a + n) = k
  · simp [h]
  · simp [h]

theorem plc_cons (D : List Int) (k : Int × Int × Int) (a n : Nat) : plc D k a (n + 1) = (if thk D a = k then [a] else []) ++ plc D k (a + 1) n := by
  unfold plc
  rw [List.range'_succ, List.filter_cons]
  by_cases h : thk D a = k
  · simp [h]
  · simp [h]

theorem plc_enter (D : List Int) (a n : Nat) : plc D (thk D (a + n)) a (n + 1) = plc D (thk D (a + n)) a n ++ [a + n] := by rw [plc_snoc, if_pos rfl]
theorem plc_enter_ne {D : List Int} {k : Int × Int × Int} {a n : Nat} (h : thk D (a + n) ≠ k) : plc D k a (n + 1) = plc D k a n := by rw [plc_snoc, if_neg h, List.append_nil]
theorem plc_leave (D : List Int) (a n : Nat) : plc D (thk D a) a (n + 1) = a :: plc D (thk D a) (a + 1) n := by rw [plc_cons, if_pos rfl]; rfl
theorem plc_leave_ne {D : List Int} {k : Int × Int × Int} {a n : Nat} (h : thk D a ≠ k) : plc D k a (n + 1) = plc D k (a + 1) n := by rw [plc_cons, if_neg h, List.nil_append]

theorem plc_len (D : List Int) (k : Int × Int × Int) (a n : Nat) : (plc D k a n).length ≤ n := by
  unfold plc
  have := List.length_filter_le (fun p => decide (thk D p = k)) (List.range' a n)
  simpa using this

theorem plc_asc {D : List Int} {i : Nat} (a n : Nat) (h : i + 3 ≤ D.length) : plc D (thk D i) a n = asc D i a n := by
  unfold plc asc
  apply List.filter_congr
  intro p _
  have : (thk D p = thk D i) ↔ Cnd D p i := by
    unfold thk Cnd
    simp only [Prod.mk.injEq]
    constructor
    · rintro ⟨h1, h2, h3⟩; exact ⟨by omega, h1, h2, h3⟩
    · rintro ⟨_, h1, h2, h3⟩; exact ⟨h1, h2, h3⟩
  simp only [this]

theorem bst_none {D : List Int} {i W C : Nat} (h : ¬ i + 3 ≤ D.length) : bst D i W C = (0, 0) := by
  unfold bst cds
  rw [asc_none h]
  simp [pick]

def bb (D : List Int) (W C i b : Nat) : Nat × Nat := if b < (bst D i W C).1 then bst D i W C else (0, 0)

theorem bb_near {D : List Int} {W C i b : Nat} (h : i + 3 ≤ D.length) : lng D i (((plc D (thk D i) (i - min i W) (min i W)).drop ((plc D (thk D i) (i - min i W) (min i W)).length - C)).reverse) b = bb D W C i b := by
  rw [plc_asc _ _ h, near_rev]
  show lng D i ((cds D i (min i W)).take C) b = _
  rw [lng_eq fun j hj => (cds_mem (Nat.min_le_left _ _) (List.mem_of_mem_take hj)).2.1]
  rfl

theorem bb_none {D : List Int} {W C i b : Nat} (h : ¬ i + 3 ≤ D.length) : bb D W C i b = (0, 0) := by
  unfold bb
  rw [bst_none h]
  simp

theorem bb_two {D : List Int} {W C i : Nat} : bb D W C i 2 = bst D i W C := by
  unfold bb
  rcases bst_facts (D := D) (i := i) (W := W) (C := C) with h | ⟨j, _, _, _, h4, h5, _⟩
  · rw [h]; simp
  · rw [h5, if_pos (by simp only; omega)]

def ofb (D : List Int) (W C : Nat) (z : Bool) (i : Nat) : Nat × Nat := if z = true ∧ (bst D i W C).1 ≠ 0 then bb D W C (i + 1) (bst D i W C).1 else (0, 0)

theorem lit_ofb {D : List Int} {W C : Nat} {z : Bool} {i : Nat} : Lit D W C z i ↔ ((bst D i W C).1 = 0 ∨ 0 < (ofb D W C z i).1) := by
  unfold Lit ofb bb
  by_cases h0 : (bst D i W C).1 = 0
  · simp [h0]
  · by_cases hz : z = true
    · rw [if_pos ⟨hz, h0⟩]
      by_cases hl : (bst D i W C).1 < (bst D (i + 1) W C).1
      · rw [if_pos hl]
        refine ⟨fun _ => .inr (by omega), fun _ => .inr ⟨hz, ?_, hl⟩⟩
        by_cases e : i + 1 + 3 ≤ D.length
        · omega
        · rw [bst_none e] at hl; simp at hl
      · rw [if_neg hl]
        constructor
        · rintro (h | ⟨_, _, h⟩)
          · exact .inl h
          · exact absurd h hl
        · rintro (h | h)
          · exact .inl h
          · simp at h
    · rw [if_neg (fun q => hz q.1)]
      constructor
      · rintro (h | ⟨h, _⟩)
        · exact .inl h
        · exact absurd h hz
      · rintro (h | h)
        · exact .inl h
        · simp at h

def Cry (D : List Int) (W C i : Nat) (s : Nat × Nat) : Prop := s = (0, 0) ∨ (s.1 ≠ 0 ∧ s = bst D i W C)

theorem cry_go {D : List Int} {W C : Nat} {z : Bool} {i : Nat} (hi : i < D.length) : Cry D W C (i + says (tok D W C z i)) (ofb D W C z i) := by
  by_cases h : Lit D W C z i
  · rw [says_lit h]
    unfold ofb bb
    split
    · split
      · exact .inr ⟨by omega, rfl⟩
      · exact .inl rfl
    · exact .inl rfl
  · left
    have : ¬ 0 < (ofb D W C z i).1 := fun q => h (lit_ofb.2 (.inr q))
    unfold ofb bb at this ⊢
    split
    · rename_i q
      rw [if_pos q] at this
      split
      · rename_i q2
        rw [if_pos q2] at this
        omega
      · rfl
    · rfl

theorem tks_go {D : List Int} {W C : Nat} {z : Bool} {n i : Nat} (hi : i < D.length) : tks D W C z (n + 1) i = tok D W C z i :: tks D W C z n (i + says (tok D W C z i)) := by simp only [tks, if_pos hi]
theorem tks_end {D : List Int} {W C : Nat} {z : Bool} {n i : Nat} (hi : ¬ i < D.length) : tks D W C z n i = [] := by cases n <;> simp [tks, hi]
end Go.Proofs.Ytjldmphfdaoecaa

namespace Go.Proofs.Ytjldmphfdaoecaa
open Go.RowKit Go.Maps
set_option maxRecDepth 20000
set_option linter.unusedVariables false
set_option linter.unusedSimpArgs false

def OX (w : World) (base : Nat) (v : Value) (l : List Int) : Prop :=
  (v = .slice none 0 0 ∧ l = []) ∨ ∃ (g f cap : Nat) (cur : Array Value), v = .slice (some ⟨g, f, none⟩) l.length cap ∧ base ≤ g ∧ w.heap[g]? = some (.cells cur 3 (0, 0)) ∧ l.length ≤ cap ∧ f + cap ≤ maxLen ∧ cur.size = f + cap ∧ (cur.toList.drop f).take l.length = l.map (Value.int .i64)

theorem OX.nil (w : World) (base : Nat) : OX w base (.slice none 0 0) [] := .inl ⟨rfl, rfl⟩

theorem OX.lt {w : World} {base : Nat} {v : Value} {l : List Int} (h : OX w base v l) : ∀ k, v.ownBlock = some k → base ≤ k ∧ k < w.heap.size := by
  rcases h with ⟨rfl, _⟩ | ⟨g, f, cap, cur, rfl, h1, h2, _⟩
  · intro k hk; cases hk
  · intro k hk
    simp only [Value.ownBlock, Option.some.injEq] at hk
    subst hk
    exact ⟨h1, (Array.getElem?_eq_some_iff.1 h2).1⟩

theorem OX.move {w w' : World} {base : Nat} {v : Value} {l : List Int} (h : OX w base v l) (hb : ∀ k, v.ownBlock = some k → w'.heap[k]? = w.heap[k]?) : OX w' base v l := by
  rcases h with h | ⟨g, f, cap, cur, rfl, h1, h2, r⟩
  · exact .inl h
  · exact .inr ⟨g, f, cap, cur, rfl, h1, (hb g rfl).trans h2, r⟩

theorem ox_get {cur : Array Value} {f : Nat} {l : List Int} (h : (cur.toList.drop f).take l.length = l.map (Value.int .i64)) {j : Nat} (hj : j < l.length) : cur[f + j]? = some (.int .i64 (l.getD j 0)) := by
  have e := congrArg (fun q => q[j]?) h
  simp only [List.getElem?_take, hj, if_true, List.getElem?_drop, Array.getElem?_toList] at e
  rw [e]
  simp [hj]

theorem OX.si {w : World} {base : Nat} {v : Value} {l : List Int} (h : OX w base v l) : SI w v l := by
  rcases h with ⟨rfl, rfl⟩ | ⟨g, f, cap, cur, rfl, _, h2, h3, h4, h5, h6⟩
  · exact ⟨none, 0, rfl, Nat.le_refl _, Nat.zero_le _, fun _ => rfl, fun x hx => by cases hx⟩
  · refine ⟨some ⟨g, f, none⟩, cap, rfl, h3, by omega, (fun e => by cases e), fun x hx i hi => ?_⟩
    cases hx
    rw [Addr.add_lit]
    unfold World.cell?
    simp only [h2]
    exact ox_get h6 hi

theorem OX.tail {w : World} {base g f cap : Nat} {x : Int} {l : List Int} (h : OX w base (.slice (some ⟨g, f, none⟩) (x :: l).length cap) (x :: l)) : OX w base (.slice (some ⟨g, f + 1, none⟩) l.length (cap - 1)) l := by
  rcases h with ⟨e, _⟩ | ⟨g', f', cap', cur, he, h1, h2, h3, h4, h5, h6⟩
  · cases e
  · simp only [Value.slice.injEq, Option.some.injEq, Addr.mk.injEq, and_true] at he
    obtain ⟨⟨rfl, rfl⟩, -, rfl⟩ := he
    simp only [List.length_cons] at h3
    refine .inr ⟨g, f + 1, cap - 1, cur, rfl, h1, h2, by omega, by omega, by omega, ?_⟩
    rw [← List.drop_drop]
    have e : cur.toList.drop f = (cur.toList.drop f).head! :: (cur.toList.drop f).drop 1 := by
      have hl : 0 < (cur.toList.drop f).length := by simp; omega
      cases hq : cur.toList.drop f with
      | nil => rw [hq] at hl; simp at hl
      | cons a r => rfl
    rw [e] at h6
    simp only [List.length_cons, List.take_succ_cons, List.map_cons, List.cons.injEq] at h6
    exact h6.2

theorem run_appX (w : World) (base : Nat) (ty : TypeId) (v xv : Value) (l : List Int) (x : Int) (hown : OX w base v l) (hs : Src Try.prog 1 54 xv 1 [Value.int .i64 x] w) (hb : l.length ≤ 1000000000) (hbase : base ≤ w.heap.size) :
    ∃ v' w', (Builtin.append_ #[54, 54] ty #[v, xv]).run Try.prog w = .ok v' w' ∧ OX w' base v' (l ++ [x]) ∧ Grew w w' v v' := by
  obtain ⟨i, hi, hz, hsz, hby⟩ := info_parts infoInt
  have hs' : Src Try.prog i.size 54 xv 1 [Value.int .i64 x] w := by rw [hsz]; exact hs
  have hmx : l.length + 1 ≤ maxLen := by unfold maxLen; omega
  have grown : ∀ old, old < l.length + 1 → OX (w.drew.alloc (.cells ((l.map (Value.int .i64) ++ [Value.int .i64 x]).toArray ++ Builtin.zeroCells (Value.int .i64 0).cells (grownCap w (l.length + 1) old 3 - (l.length + 1))) 3)) base
      (.slice (some ⟨w.heap.size, 0, none⟩) (l.length + 1) (grownCap w (l.length + 1) old 3)) (l ++ [x]) := by
    intro old ho
    have hge := grownCap_ge w (l.length + 1) old 3
    have hcm : grownCap w (l.length + 1) old 3 ≤ maxLen := grownCap_le_maxLen w (l.length + 1) old 3 hmx
    refine .inr ⟨w.heap.size, 0, grownCap w (l.length + 1) old 3, _, by simp, hbase, heap_alloc_new w.drew _, by simp; exact hge, by omega, ?_, ?_⟩
    · simp only [Array.size_append, List.size_toArray, List.length_append, List.length_map, List.length_singleton, size_zeroCells, Value.cells]
      simp
      omega
    · simp only [List.drop_zero, Array.toList_append, List.map_append, List.map_cons, List.map_nil]
      rw [List.take_append_of_le_length (by simp)]
      exact List.take_of_length_le (by simp)
  rcases hown with ⟨rfl, rfl⟩ | ⟨g, f, cap, cur, rfl, hbg, hg, hnc, hcm, hcs, htake⟩
  · have hr := run_append_grow_src (P := Try.prog) w 54 54 ty 3 i (.int .i64 0) Try.underlying54 hi hz none 0 0 [] (run_firstCells_none w.drew i.size 0 0 0) xv 1 _ hs' (by omega) (by omega) (by rw [hby]; exact growslice_fits (by omega) (by omega))
    have hgr := grown 0 (by simp)
    simp only [List.length_nil, Nat.zero_add, List.map_nil, List.nil_append] at hgr hr ⊢
    exact ⟨_, _, hr, hgr, .inr (.inl ⟨rfl, (Below.refl _ _).drew.alloc (Nat.le_refl _) _⟩)⟩
  · by_cases hroom : l.length + 1 ≤ cap
    · have hfit : f + l.length * i.size + 1 ≤ cur.size := by rw [hsz, hcs]; omega
      have hst := run_storeCells_at Try.prog g (f + l.length * i.size) 3 [Value.int .i64 x] 0 cur w hg (by simpa using hfit) hs.one
      simp only [Nat.add_zero] at hst
      have hr : (Builtin.append_ #[54, 54] ty #[.slice (some ⟨g, f, none⟩) l.length cap, xv]).run Try.prog w =
          .ok (.slice (some ⟨g, f, none⟩) (l.length + 1) cap) (w.setRow g (cur.toList.take (f + l.length * i.size) ++ [Value.int .i64 x] ++ cur.toList.drop (f + l.length * i.size + 1)).toArray) := by
        rcases hs'.kind with ⟨e', hk⟩ | hk <;> simp [Builtin.append_, run_underlying Try.underlying54, run_underlying hk, sizeOf, typeInfo, hi, hs'.len, hroom, hs'.cells, Addr.add_lit, hst]
      refine ⟨_, _, hr, .inr ⟨g, f, cap, _, by simp, hbg, setRow_heap w g cur _ 3 _ hg, by simp; exact hroom, hcm, ?_, ?_⟩, .inr (.inr ⟨rfl, by simp [World.setRow], ⟨rfl, rfl, rfl, by simp, fun k _ hk => setRow_other w g k _ (fun e => hk (by simp [Value.ownBlock, e]))⟩⟩)⟩
      · rw [hsz]
        simp only [List.size_toArray, List.length_append, List.length_take, List.length_drop, Array.length_toList, List.length_singleton]
        omega
      · rw [hsz, Nat.mul_one]
        have hle : f + l.length ≤ cur.toList.length := by simp; omega
        have e1 : (cur.toList.take (f + l.length)).drop f = (cur.toList.drop f).take l.length := by rw [List.drop_take]; congr 1; omega
        rw [List.append_assoc, List.drop_append_of_le_length (by simp; omega), e1, htake]
        simp only [List.map_append, List.map_cons, List.map_nil, List.length_append, List.length_singleton, ← List.append_assoc]
        rw [List.take_append_of_le_length (by simp)]
        exact List.take_of_length_le (by simp)
    · have holds : ∀ j u, (l.map (Value.int .i64))[j]? = some u → w.drew.cell? ((⟨g, f, none⟩ : Addr).add j) = some u := fun j u hj => by
        obtain ⟨hjl, rfl⟩ := List.getElem?_eq_some_iff.1 hj
        have hjl' : j < l.length := by simpa using hjl
        rw [Addr.add_lit]
        show w.cell? _ = _
        unfold World.cell?
        simp only [hg]
        rw [ox_get htake hjl']
        simp [hjl']
      have hr := run_append_grow_src (P := Try.prog) w 54 54 ty 3 i (.int .i64 0) Try.underlying54 hi hz (some ⟨g, f, none⟩) l.length cap (l.map (Value.int .i64)) (run_firstCells_some w.drew i.size l.length ⟨g, f, none⟩ l.length cap _ (by rw [hsz]; simp) holds) xv 1 _ hs' (by omega) (by omega) (by rw [hby]; exact growslice_fits (by omega) (by omega))
      exact ⟨_, _, hr, grown cap (by omega), .inr (.inl ⟨rfl, (Below.refl _ _).drew.alloc (Nat.le_refl _) _⟩)⟩
end Go.Proofs.Ytjldmphfdaoecaa

namespace Go.Proofs.Ytjldmphfdaoecaa
open Go.RowKit Go.Maps
open Go.ChangeMaps (setBlock heap_setBlock_same heap_setBlock_other)
set_option maxRecDepth 20000
set_option linter.unusedVariables false

def Key3 (k : Int × Int × Int) : Prop := (0 ≤ k.1 ∧ k.1 < 256) ∧ (0 ≤ k.2.1 ∧ k.2.1 < 256) ∧ (0 ≤ k.2.2 ∧ k.2.2 < 256)
def kv (k : Int × Int × Int) : Value := .agg #[.int .u8 k.1, .int .u8 k.2.1, .int .u8 k.2.2]
def kl (k : Int × Int × Int) : Go.Lit := .string (keyBytes [.int .u8 k.1, .int .u8 k.2.1, .int .u8 k.2.2])

theorem thr_kv (D : List Int) (i : Nat) : thr D i = kv (thk D i) := rfl

theorem wide3 : (match Try.prog.underlying 56 with | some (.array _ _) | some (.struct _) => true | _ => false) = true := by rw [Try.underlying56]
theorem row3 : (56 : TypeId) < Try.prog.types.size := of_decide_eq_true (by kernel_rfl)
theorem laid3 : laidOutB Try.prog = true := by kernel_rfl
theorem law3 : Go.WideMaps.KeyLaw Try.prog 56 := deep_law_laid laid3 (m := 2) (by omega) row3 (by kernel_rfl) wide3
theorem keyed3 : Keyed Try.prog 56 := Keyed.of_law law3
theorem keyT3 : Try.prog.keyType 56 = true := by kernel_rfl
theorem cells3 : Try.prog.cellsOf 56 = 3 := by kernel_rfl
theorem cells1 : Try.prog.cellsOf 5 = 1 := by kernel_rfl

theorem wf_byte {a : Int} (h : 0 ≤ a ∧ a < 256) : (Go.Lit.int .u8 a).wf = true := WalkArith.wf_u8 (by omega)

theorem key_of {k : Int × Int × Int} (h : Key3 k) : keyOf Try.prog 56 (kv k) = some (kl k) := by
  obtain ⟨a, b, c⟩ := k
  obtain ⟨h1, h2, h3⟩ := h
  simp only at h1 h2 h3
  have w1 := wf_byte h1
  have w2 := wf_byte h2
  have w3 := wf_byte h3
  have hf : (kv (a, b, c)).formed Try.prog 56 = true := by simp [Value.formed, kv, Try.underlying56, cells3]
  have hr := row3
  obtain ⟨n, hn⟩ : ∃ n, Try.prog.types.size + 1 = n + 2 := ⟨Try.prog.types.size - 1, by have : 0 < Try.prog.types.size := Nat.lt_of_le_of_lt (Nat.zero_le _) hr
                                                                                        omega⟩
  unfold keyOf
  rw [Try.underlying56]
  simp only [keyT3, hf, Bool.and_self, if_true]
  rw [hn]
  simp [Program.keyLits, Try.underlying56, Try.underlying5, kv, Value.cells, cells3, cells1, List.range, List.range.loop, w1, w2, w3, kl]

theorem kv_inj {k k' : Int × Int × Int} (h : kv k = kv k') : k = k' := by
  obtain ⟨a, b, c⟩ := k
  obtain ⟨a', b', c'⟩ := k'
  simp only [kv, Value.agg.injEq, Array.mk.injEq, List.cons.injEq, Value.int.injEq, true_and, and_true] at h
  simp [h]

theorem kl_ne {k k' : Int × Int × Int} (h : Key3 k) (h' : Key3 k') (hne : k ≠ k') : kl k ≠ kl k' := fun e =>
  hne (kv_inj (keyed3.inj (key_of h) (by rw [e]; exact key_of h')))

def tokX (v : Value) : Option (DataW Unit × List MemPlace) :=
  match v with
  | .slice none 0 0 => some (.nil, [])
  | .slice (some ⟨b, f, none⟩) n c => some (.agg [.lit (.int .i64 b), .lit (.int .i64 f), .lit (.int .i64 n), .lit (.int .i64 c)], [])
  | _ => none

theorem tokX_inj {v u : Value} {d : DataW Unit} {p q : List MemPlace} (h : tokX v = some (d, p)) (k : tokX u = some (d, q)) : v = u := by
  unfold tokX at h k
  split at h
  · simp only [Option.some.injEq, Prod.mk.injEq] at h
    obtain ⟨rfl, rfl⟩ := h
    split at k
    · rfl
    · simp at k
    · cases k
  · simp only [Option.some.injEq, Prod.mk.injEq] at h
    obtain ⟨rfl, rfl⟩ := h
    split at k
    · simp at k
    · simp only [Option.some.injEq, Prod.mk.injEq, DataW.agg.injEq, List.cons.injEq, DataW.lit.injEq, Lit.int.injEq, and_true, true_and] at k
      obtain ⟨⟨k1, k2, k3, k4⟩, -⟩ := k
      simp only [Value.slice.injEq, Option.some.injEq, Addr.mk.injEq, and_true]
      omega
    · cases k
  · cases h

theorem tokX_none {v : Value} {x : DataW Unit × List MemPlace} (h : tokX v = some x) : x.2 = [] := by
  unfold tokX at h
  split at h
  · cases h; rfl
  · cases h; rfl
  · cases h

theorem zeroRow (w : World) : (zeroValue 54).run Try.prog w = .ok (.slice none 0 0) w := by kernel_rfl

def MP (w : World) (m N : Nat) (f : Int × Int × Int → Value) : Prop := ∃ n D, n ≤ N ∧ w.ownsMap Try.prog 56 tokX m n D ∧ ∀ k, Key3 k → tokX (f k) = some (D.atKey (kl k) .nil, [])

def fup (f : Int × Int × Int → Value) (k : Int × Int × Int) (v : Value) : Int × Int × Int → Value := fun q => if q = k then v else f q

theorem MP.lt {w : World} {m N : Nat} {f : Int × Int × Int → Value} (h : MP w m N f) : m < w.heap.size := by
  obtain ⟨n, D, _, ho, _⟩ := h
  exact ho.lt

theorem MP.move {w w' : World} {m N : Nat} {f : Int × Int × Int → Value} (h : MP w m N f) (hb : w'.heap[m]? = w.heap[m]?) : MP w' m N f := by
  obtain ⟨n, D, hn, ⟨es, clock, h1, h2⟩, hf⟩ := h
  exact ⟨n, D, hn, ⟨es, clock, hb.trans h1, h2⟩, hf⟩

theorem MP.mono {w : World} {m N N' : Nat} {f : Int × Int × Int → Value} (h : MP w m N f) (hN : N ≤ N') : MP w m N' f := by
  obtain ⟨n, D, hn, r⟩ := h
  exact ⟨n, D, Nat.le_trans hn hN, r⟩

theorem MP.new {w : World} {m : Nat} (h : w.heap[m]? = some (.map #[] 0)) : MP w m 0 (fun _ => .slice none 0 0) :=
  ⟨0, .map [], Nat.le_refl _, ⟨#[], 0, h, ⟨by simp, Go.MapKept.stamped_empty 0, by simp⟩, Nat.le_refl _, rfl⟩, fun k _ => rfl⟩

theorem MP.look {w : World} {m N : Nat} {f : Int × Int × Int → Value} (h : MP w m N f) {k : Int × Int × Int} (hk : Key3 k) :
    (Instr.lookup 46 (.map (some m)) (kv k) false).run Try.prog w = .ok (f k) w := by
  obtain ⟨n, D, _, ho, hf⟩ := h
  obtain ⟨u, ps, hrun, hu⟩ := ho.lookup keyed3 Try.underlying46 (zeroRow w) (zd := .nil) (zp := []) rfl (key_of hk)
  rw [tokX_inj hu (hf k hk)] at hrun
  exact hrun

theorem MP.put {w w' : World} {m N n : Nat} {D : DataW Unit} {f : Int × Int × Int → Value} {k : Int × Int × Int} {v : Value} {d : DataW Unit} (hf : ∀ k, Key3 k → tokX (f k) = some (D.atKey (kl k) .nil, [])) (hD : IsMap D) (hk : Key3 k) (hv : tokX v = some (d, [])) (hn : n ≤ N)
    (ho : w'.ownsMap Try.prog 56 tokX m (n + 1) (D.put (kl k) d)) : MP w' m (N + 1) (fup f k v) := by
  refine ⟨n + 1, _, by omega, ho, fun q hq => ?_⟩
  unfold fup
  by_cases e : q = k
  · rw [if_pos e, e, atKey_put_same hD (keyed3.key (key_of hk))]
    exact hv
  · rw [if_neg e, atKey_put_other (kl_ne hq hk e)]
    exact hf q hq

theorem MP.store {w : World} {m N : Nat} {f : Int × Int × Int → Value} (h : MP w m N f) (hN : N ≤ 1000000000) {k : Int × Int × Int} (hk : Key3 k) {v : Value} {d : DataW Unit} (hv : tokX v = some (d, [])) :
    ∃ w', (Instr.mapUpdate 46 (.map (some m)) (kv k) v).run Try.prog w = .ok () w' ∧ MP w' m (N + 1) (fup f k v) ∧ w.grownBy w' (some m) := by
  obtain ⟨n, D, hn, ho, hf⟩ := h
  obtain ⟨w', h1, h2, h3⟩ := ho.update keyed3 Try.underlying46 (by unfold maxLen; omega) (key_of hk) hv
  exact ⟨w', h1, MP.put (w := w) hf ho.isMap hk hv hn h2, h3⟩

theorem MP.drop {w : World} {m N : Nat} {f : Int × Int × Int → Value} (h : MP w m N f) {k : Int × Int × Int} (hk : Key3 k) (ty : TypeId) :
    ∃ w', (Builtin.delete_ #[46, 56] ty #[.map (some m), kv k]).run Try.prog w = .ok (.tuple #[]) w' ∧ MP w' m N (fup f k (.slice none 0 0)) ∧ w.grownBy w' (some m) := by
  obtain ⟨n, D, hn, ho, hf⟩ := h
  obtain ⟨w', h1, h2, ⟨es, clock, es', clock', hb, h3⟩⟩ := ho.drop keyed3 Try.underlying46 (key_of hk) ty
  refine ⟨w', h1, ⟨n, _, hn, h2, fun q hq => ?_⟩, ?_⟩
  · unfold fup
    by_cases e : q = k
    · rw [if_pos e, e, atKey_del_same]
      rfl
    · rw [if_neg e, atKey_del_other (kl_ne hq hk e)]
      exact hf q hq
  · rw [h3]
    exact ⟨rfl, rfl, rfl, by simp [setBlock], fun i _ hi => heap_setBlock_other hb _ (fun e => hi (by rw [e]))⟩

theorem MP.entry {w : World} {m N : Nat} {f : Int × Int × Int → Value} (h : MP w m N f) (hN : N ≤ 1000000000) {k : Int × Int × Int} (hk : Key3 k) :
    ∃ (st : Nat) (w1 : World), (Instr.mapEntry 46 (.map (some m)) (kv k)).run Try.prog w = .ok (.tuple #[f k, goInt st]) w1 ∧ w.grownBy w1 (some m) ∧
      ∀ (w2 : World) (v : Value) (d : DataW Unit), w2.heap[m]? = w1.heap[m]? → tokX v = some (d, []) → ∃ w3, (Instr.entryStore 46 (.map (some m)) (goInt st) v).run Try.prog w2 = .ok () w3 ∧ MP w3 m (N + 1) (fup f k v) ∧ w2.grownBy w3 (some m) := by
  obtain ⟨n, D, hn, ho, hf⟩ := h
  have ho' := ho
  obtain ⟨es, clock, hb, F, hs, hD⟩ := ho
  obtain ⟨v0, st, es1, clock1, hE, hcase, hS⟩ := Go.WideElems.entry_then_store (w := w) law3 Try.underlying46 zeroRow hb F (key_of hk)
  have hv0 : v0 = f k := by
    rcases hcase with ⟨e0, hm0, hk0, rfl⟩ | ⟨hno, rfl⟩
    · obtain ⟨y, hy⟩ := F.reads e0 hm0
      obtain ⟨z, hz, _⟩ := Go.WideElems.rd_val hy
      have hat := Go.WideElems.atKey_some law3 F (key_of hk) hm0 hk0 hz .nil
      have h0 := hf k hk
      rw [hD, hat] at h0
      have hz2 := tokX_none hz
      exact tokX_inj (by rw [hz]) h0
    · have hat := Go.WideElems.atKey_none law3 F (key_of hk) hno .nil
      have h0 := hf k hk
      rw [hD, hat] at h0
      exact tokX_inj (p := []) rfl h0
  rw [hv0] at hE
  refine ⟨st, _, hE, ⟨rfl, rfl, rfl, by simp [setBlock], fun i _ hi => heap_setBlock_other hb _ (fun e => hi (by rw [e]))⟩, fun w2 v d hw2 hv => ?_⟩
  rw [heap_setBlock_same hb] at hw2
  obtain ⟨es', clock', r1, r2⟩ := hS w2 v hw2
  obtain ⟨w', q1, q2, _⟩ := ho'.update keyed3 Try.underlying46 (by unfold maxLen; omega) (key_of hk) hv
  rw [r2] at q1
  cases q1
  refine ⟨_, r1, (MP.put (w := w) hf ho'.isMap hk hv hn q2).move ?_, ⟨rfl, rfl, rfl, by simp [setBlock], fun i _ hi => heap_setBlock_other hw2 _ (fun e => hi (by rw [e]))⟩⟩
  rw [heap_setBlock_same hw2, heap_setBlock_same hb]
end Go.Proofs.Ytjldmphfdaoecaa

namespace Go.Proofs.Ytjldmphfdaoecaa
open Go.RowKit Go.Maps
set_option maxRecDepth 20000
set_option linter.unusedVariables false

theorem cellIn {w : World} {g k : Nat} {cur : Array Value} {t : TypeId} {fz : Nat × Nat} {u : Value} (h : w.heap[g]? = some (.cells cur t fz)) (hk : cur[k]? = some u) : w.cell? ⟨g, k, none⟩ = some u := by
  unfold World.cell?
  simp only [h]
  exact hk

def TB (w : World) (g : Nat) (v : Value) (W C : Nat) (z : Bool) (m nx : Nat) : Prop := w.heap[g]? = some (.cells #[v, .int .i64 W, .int .i64 C, .bool z, .map (some m), .int .i64 nx] 48 (0, 0))

theorem TB.cells {w : World} {g m W C nx : Nat} {v : Value} {z : Bool} (h : TB w g v W C z m nx) : w.cell? ⟨g, 0, none⟩ = some v ∧ w.cell? ⟨g, 1, none⟩ = some (.int .i64 W) ∧ w.cell? ⟨g, 2, none⟩ = some (.int .i64 C) ∧ w.cell? ⟨g, 3, none⟩ = some (.bool z) ∧ w.cell? ⟨g, 4, none⟩ = some (.map (some m)) ∧ w.cell? ⟨g, 5, none⟩ = some (.int .i64 nx) :=
  ⟨cellIn h rfl, cellIn h rfl, cellIn h rfl, cellIn h rfl, cellIn h rfl, cellIn h rfl⟩

structure Tlr (w : World) (base g m N : Nat) (v : Value) (D : List Int) (W C : Nat) (z : Bool) (f : Int × Int × Int → Value) (a n nx : Nat) : Prop where
  box : TB w g v W C z m nx
  bg : base ≤ g
  bm : base ≤ m
  gm : g ≠ m
  dat : SB w v D
  low : ∀ k, v.ownBlock = some k → k < base
  map : MP w m N f
  rows : ∀ k, Key3 k → OX w base (f k) (ins (plc D k a n))
  off : ∀ k b, Key3 k → (f k).ownBlock = some b → b ≠ g ∧ b ≠ m
  sep : ∀ k q b, Key3 k → Key3 q → k ≠ q → (f k).ownBlock = some b → (f q).ownBlock = some b → False

theorem Tlr.lt {w : World} {base g m N W C a n nx : Nat} {v : Value} {D : List Int} {z : Bool} {f : Int × Int × Int → Value} (h : Tlr w base g m N v D W C z f a n nx) : g < w.heap.size ∧ m < w.heap.size := ⟨(Array.getElem?_eq_some_iff.1 h.box).1, h.map.lt⟩

theorem Tlr.key {D : List Int} (hB : Byt D) (i : Nat) : Key3 (thk D i) := ⟨hB i, hB (i + 1), hB (i + 2)⟩

theorem Tlr.turn {w w' : World} {base g m N N' W C a n a' n' nx : Nat} {v u : Value} {D : List Int} {z : Bool} {f : Int × Int × Int → Value} {k : Int × Int × Int} (h : Tlr w base g m N v D W C z f a n nx) (hk : Key3 k) (hbw : base ≤ w.heap.size)
    (hfr : ∀ b, b < w.heap.size → b ≠ m → (f k).ownBlock ≠ some b → w'.heap[b]? = w.heap[b]?) (hu : OX w' base u (ins (plc D k a' n'))) (hub : ∀ b, u.ownBlock = some b → (f k).ownBlock = some b ∨ w.heap.size ≤ b)
    (hmp : MP w' m N' (fup f k u)) (hne : ∀ q, Key3 q → q ≠ k → plc D q a' n' = plc D q a n) : Tlr w' base g m N' v D W C z (fup f k u) a' n' nx where
  box := (hfr g h.lt.1 h.gm (fun e => (h.off k g hk e).1 rfl)).trans h.box
  bg := h.bg
  bm := h.bm
  gm := h.gm
  dat := h.dat.move fun ad _ ha hb => by
    have hl := h.low _ hb
    exact (World.cell?_of_block (hfr ad.block (by omega) (by have := h.bm; omega) (fun e => by have := ((h.rows k hk).lt _ e).1; omega))).trans ha
  low := h.low
  map := hmp
  rows := fun q hq => by
    unfold fup
    by_cases e : q = k
    · rw [if_pos e, e]; exact hu
    · rw [if_neg e, hne q hq e]
      exact (h.rows q hq).move fun b hb => hfr b ((h.rows q hq).lt b hb).2 (h.off q b hq hb).2 (fun e2 => h.sep q k b hq hk e hb e2)
  off := fun q b hq hb => by
    unfold fup at hb
    by_cases e : q = k
    · rw [if_pos e] at hb
      rcases hub b hb with e2 | e2
      · exact h.off k b hk e2
      · have := h.lt; exact ⟨by omega, by omega⟩
    · rw [if_neg e] at hb
      exact h.off q b hq hb
  sep := fun p q b hp hq hpq h1 h2 => by
    unfold fup at h1 h2
    by_cases e1 : p = k
    · rw [if_pos e1] at h1
      have e2 : q ≠ k := fun e => hpq (e1.trans e.symm)
      rw [if_neg e2] at h2
      rcases hub b h1 with e3 | e3
      · exact h.sep k q b hk hq (fun e => e2 e.symm) e3 h2
      · have := ((h.rows q hq).lt b h2).2; omega
    · rw [if_neg e1] at h1
      by_cases e2 : q = k
      · rw [if_pos e2] at h2
        rcases hub b h2 with e3 | e3
        · exact h.sep p k b hp hk e1 h1 e3
        · have := ((h.rows p hp).lt b h1).2; omega
      · rw [if_neg e2] at h2
        exact h.sep p q b hp hq hpq h1 h2

def FT (g m : Nat) (f f' : Int × Int × Int → Value) (w w' : World) : Prop := w.heap.size ≤ w'.heap.size ∧ ∀ b, b < w.heap.size → b ≠ g → b ≠ m → (∀ k, Key3 k → (f k).ownBlock ≠ some b) → w'.heap[b]? = w.heap[b]? ∧ ∀ k, Key3 k → (f' k).ownBlock ≠ some b

theorem FT.refl (g m : Nat) (f : Int × Int × Int → Value) (w : World) : FT g m f f w w := ⟨Nat.le_refl _, fun b _ _ _ h => ⟨rfl, h⟩⟩
theorem FT.trans {g m : Nat} {f f' f'' : Int × Int × Int → Value} {a b c : World} (h : FT g m f f' a b) (k : FT g m f' f'' b c) : FT g m f f'' a c :=
  ⟨Nat.le_trans h.1 k.1, fun i hi h1 h2 h3 => by
    obtain ⟨e1, e2⟩ := h.2 i hi h1 h2 h3
    obtain ⟨e3, e4⟩ := k.2 i (Nat.lt_of_lt_of_le hi h.1) h1 h2 e2
    exact ⟨e3.trans e1, e4⟩⟩
theorem FT.of_below {g m : Nat} {f : Int × Int × Int → Value} {w w' : World} (h : Below w.heap.size w w') : FT g m f f w w' := ⟨h.size, fun b hb _ _ h3 => ⟨h.block b hb, h3⟩⟩
theorem FT.turn {w w' : World} {g m : Nat} {u : Value} {f : Int × Int × Int → Value} {k : Int × Int × Int} (hk : Key3 k) (hsz : w.heap.size ≤ w'.heap.size)
    (hfr : ∀ b, b < w.heap.size → b ≠ m → (f k).ownBlock ≠ some b → w'.heap[b]? = w.heap[b]?) (hub : ∀ b, u.ownBlock = some b → (f k).ownBlock = some b ∨ w.heap.size ≤ b) : FT g m f (fup f k u) w w' :=
  ⟨hsz, fun b hb _ h2 h3 => ⟨hfr b hb h2 (h3 k hk), fun q hq e => by
    unfold fup at e
    by_cases c : q = k
    · rw [if_pos c] at e
      rcases hub b e with x | x
      · exact h3 k hk x
      · omega
    · rw [if_neg c] at e
      exact h3 q hq e⟩⟩

theorem Tlr.far {w w' : World} {base g m N W C a n nx : Nat} {v : Value} {D : List Int} {z : Bool} {f : Int × Int × Int → Value} (h : Tlr w base g m N v D W C z f a n nx) (hb : Below w.heap.size w w') : Tlr w' base g m N v D W C z f a n nx where
  box := (hb.block g h.lt.1).trans h.box
  bg := h.bg
  bm := h.bm
  gm := h.gm
  dat := h.dat.below hb
  low := h.low
  map := h.map.move (hb.block m h.lt.2)
  rows := fun q hq => (h.rows q hq).move fun b hbb => hb.block b ((h.rows q hq).lt b hbb).2
  off := h.off
  sep := h.sep

theorem Tlr.next {w w' : World} {base g m N W C a n nx nx' : Nat} {v : Value} {D : List Int} {z : Bool} {f : Int × Int × Int → Value} (h : Tlr w base g m N v D W C z f a n nx) (hbox : TB w' g v W C z m nx') (hb : ∀ b, b ≠ g → w'.heap[b]? = w.heap[b]?) : Tlr w' base g m N v D W C z f a n nx' where
  box := hbox
  bg := h.bg
  bm := h.bm
  gm := h.gm
  dat := h.dat.move fun ad _ ha hbb => by
    have := h.low _ hbb
    have := h.bg
    exact (World.cell?_of_block (hb ad.block (by omega))).trans ha
  low := h.low
  map := h.map.move (hb m (fun e => h.gm e.symm))
  rows := fun q hq => (h.rows q hq).move fun b hbb => hb b (h.off q b hq hbb).1
  off := h.off
  sep := h.sep
end Go.Proofs.Ytjldmphfdaoecaa

