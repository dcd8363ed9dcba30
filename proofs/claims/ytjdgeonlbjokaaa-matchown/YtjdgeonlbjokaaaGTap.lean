import Derived.Test.YtjdgeonlbjokaaaGEx
import Derived.Laws.CopyOwn
import Derived.Handy
namespace Go.Proofs.Ytjdgeonlbjokaaa
open Go.RowKit Go.Maps
set_option maxRecDepth 20000
set_option linter.unusedVariables false
set_option linter.unusedSimpArgs false

/-- A token's three cells. -/
def c3t (t : Tk) : List Value := [.int .i64 t.1, .int .i64 t.2.1, .int .u8 t.2.2]

theorem c3t_one (t : Tk) : ∀ v ∈ c3t t, v.oneCell' = true := by
  intro v hv
  unfold c3t at hv
  simp only [List.mem_cons, List.not_mem_nil, or_false] at hv
  rcases hv with rfl | rfl | rfl <;> rfl

theorem fr3_snoc' (L : List Tk) (t : Tk) : fr3 (L ++ [t]) = fr3 L ++ c3t t := fr3_snoc L t

theorem run_appT (w : World) (base : Nat) (ty : TypeId) (v x : Value) (L : List Tk) (t : Tk) (hown : OK w base v L) (hs : Src Try.prog 3 26 x 1 (c3t t) w) (hb : L.length ≤ 5864062014800) (hbase : base ≤ w.heap.size) :
    ∃ v' w', (Builtin.append_ #[26, 26] ty #[v, x]).run Try.prog w = .ok v' w' ∧ OK w' base v' (L ++ [t]) ∧ Grew w w' v v' := by
  obtain ⟨i, hi, hz, hsz, hby⟩ := info_parts infoTok
  have hs' : Src Try.prog i.size 26 x 1 (c3t t) w := by rw [hsz]; exact hs
  have hmx : L.length + 1 ≤ maxLen := by unfold maxLen; omega
  have hl3 := fr3_len L
  have grown : ∀ old, old < L.length + 1 → OK (w.drew.alloc (.cells ((fr3 L ++ c3t t).toArray ++ Builtin.zeroCells (Value.agg #[.int .i64 0, .int .i64 0, .int .u8 0]).cells (grownCap w (L.length + 1) old 38 - (L.length + 1))) 38)) base
      (.slice (some ⟨w.heap.size, 0, none⟩) (L.length + 1) (grownCap w (L.length + 1) old 38)) (L ++ [t]) := by
    intro old ho
    have hge := grownCap_ge w (L.length + 1) old 38
    have hcm : grownCap w (L.length + 1) old 38 ≤ maxLen := grownCap_le_maxLen w (L.length + 1) old 38 hmx
    refine ⟨fr3_len _, .inr ⟨w.heap.size, grownCap w (L.length + 1) old 38, _, by simp, hbase, heap_alloc_new w.drew _, by simpa using hge, hcm, ?_, ?_⟩⟩
    · simp only [Array.size_append, List.size_toArray, List.length_append, size_zeroCells, Value.cells, hl3, c3t]
      simp
      omega
    · simp only [Array.toList_append]
      rw [fr3_snoc', List.take_append_of_le_length (by simp [hl3, c3t]; omega)]
      exact List.take_of_length_le (by simp [hl3, c3t]; omega)
  rcases hown.2 with ⟨rfl, h0⟩ | ⟨g, cap, cur, rfl, hbg, hg, hnc, hcm, hcs, htake⟩
  · obtain rfl : L = [] := List.eq_nil_of_length_eq_zero h0
    have hr := run_append_grow_src (P := Try.prog) w 26 26 ty 38 i _ Try.underlying26 hi hz none 0 0 [] (run_firstCells_none w.drew i.size 0 0 0) x 1 _ hs' (by omega) (by omega) (by rw [hby]; exact growslice_fits (by omega) (by omega))
    have hgr := grown 0 (by simp)
    exact ⟨_, _, hr, hgr, .inr (.inl ⟨rfl, (Below.refl _ _).drew.alloc (Nat.le_refl _) _⟩)⟩
  · by_cases hroom : L.length + 1 ≤ cap
    · have hfit : L.length * i.size + (c3t t).length ≤ cur.size := by rw [hsz, hcs]; simp [c3t]; omega
      have hst := run_storeCells_at Try.prog g (L.length * i.size) 38 (c3t t) 0 cur w hg (by simpa using hfit) hs.one
      simp only [Nat.add_zero] at hst
      have hr : (Builtin.append_ #[26, 26] ty #[.slice (some ⟨g, 0, none⟩) L.length cap, x]).run Try.prog w =
          .ok (.slice (some ⟨g, 0, none⟩) (L.length + 1) cap) (w.setRow g (cur.toList.take (L.length * i.size) ++ c3t t ++ cur.toList.drop (L.length * i.size + (c3t t).length)).toArray) := by
        rcases hs'.kind with ⟨e', hk⟩ | hk <;> simp [Builtin.append_, run_underlying Try.underlying26, run_underlying hk, sizeOf, typeInfo, hi, hs'.len, hroom, hs'.cells, Addr.add_lit, hst]
      refine ⟨_, _, hr, ⟨fr3_len _, .inr ⟨g, cap, _, by simp, hbg, setRow_heap w g cur _ 38 _ hg, by simpa using hroom, hcm, ?_, ?_⟩⟩, .inr (.inr ⟨rfl, by simp [World.setRow], ⟨rfl, rfl, rfl, by simp, fun k _ hk => setRow_other w g k _ (fun e => hk (by simp [Value.ownBlock, e]))⟩⟩)⟩
      · rw [hsz]
        simp only [List.size_toArray, List.length_append, List.length_take, List.length_drop, Array.length_toList, c3t, List.length_cons, List.length_nil]
        omega
      · rw [hsz, htake, fr3_snoc', List.take_append_of_le_length (by simp [hl3, c3t]; omega)]
        exact List.take_of_length_le (by simp [hl3, c3t]; omega)
    · have holds : ∀ j u, (fr3 L)[j]? = some u → w.drew.cell? ((⟨g, 0, none⟩ : Addr).add j) = some u := World.ownsRow.cells hown (g := g) rfl
      have hr := run_append_grow_src (P := Try.prog) w 26 26 ty 38 i _ Try.underlying26 hi hz (some ⟨g, 0, none⟩) L.length cap (fr3 L) (run_firstCells_some w.drew i.size L.length ⟨g, 0, none⟩ L.length cap _ (by rw [hsz, hl3]) holds) x 1 _ hs' (by omega) (by omega) (by rw [hby]; exact growslice_fits (by omega) (by omega))
      exact ⟨_, _, hr, grown cap (by omega), .inr (.inl ⟨rfl, (Below.refl _ _).drew.alloc (Nat.le_refl _) _⟩)⟩

theorem built_srcT (w : World) (t : Tk) : Src Try.prog 3 26 (.slice (some ⟨w.heap.size, 0, none⟩) 1 1) 1 (c3t t) (w.alloc (.cells #[.int .i64 t.1, .int .i64 t.2.1, .int .u8 t.2.2] 38)) := by
  refine Src.ofSlice _ Try.underlying26 _ _ _ _ (by simp [c3t]) (fun j u hj => ?_) (c3t_one t)
  have e := heap_alloc_new w (.cells #[.int .i64 t.1, .int .i64 t.2.1, .int .u8 t.2.2] 38)
  rw [Addr.add_lit]
  unfold World.cell?
  simp only [e, Nat.zero_add]
  simpa [c3t] using hj

/-- One more token, and where it came to lie. -/
theorem wpList_appT {w : World} {ops : Array Oper} {rest : List Oper} {o : Oper} {a : Act} {Q : Exit → Act → World → Prop} (hgd : o.guard = none) (s x : Operand)
    (ho : o.op = .call { callee := .builtin .append, args := #[s, x], argTypes := #[26, 26] }) (base : Nat) (v xv : Value) (L : List Tk) (t : Tk) (hv : a.eval s = v) (hown : OK w base v L) (hx : a.eval x = xv) (hs : Src Try.prog 3 26 xv 1 (c3t t) w)
    (hb : L.length ≤ 5864062014800) (hbase : base ≤ w.heap.size)
    (h : ∀ v' w', OK w' base v' (L ++ [t]) → Grew w w' v v' → wpList Try.prog ops Q rest (a.put o.dst v') w') : wpList Try.prog ops Q (o :: rest) a w := by
  refine wpList_plain hgd fun K hK => ?_
  obtain ⟨v', w', hr, h2, h3⟩ := run_appT w base o.type v xv L t hown hs hb hbase
  unfold Oper.wp
  simp [execOp, ho, resolve, invoke, builtin, hv, hx, hr, Result.andThen]
  exact hK _ _ (h v' w' h2 h3)
end Go.Proofs.Ytjdgeonlbjokaaa

