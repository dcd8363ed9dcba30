import Derived.Test.YtmbgjkghcpkoiaaGEnt
namespace Go.Proofs.Ytmbgjkghcpkoiaa
open Go.RowKit Go.Maps
set_option maxRecDepth 20000
set_option linter.unusedVariables false
set_option linter.unusedSimpArgs false

theorem wpList_mkN {w : World} {ops : Array Oper} {rest : List Oper} {o : Oper} {a : Act} {Q : Exit → Act → World → Prop} (hg : o.guard = none) (l c : Operand) (hop : o.op = Op.makeSlice 22 l c)
    (kl kc : IntKind) (n : Nat) (hl : a.eval l = .int kl n) (hc : a.eval c = .int kc n) (b2 : n ≤ 733007751830)
    (hK : ∀ w' cur, w'.heap[w.heap.size]? = some (.cells cur 32 (0, 0)) → cur.size = n * 20 → Below w.heap.size w w' → wpList Try.prog ops Q rest (a.put o.dst (.slice (some ⟨w.heap.size, 0, none⟩) n n)) w') :
    wpList Try.prog ops Q (o :: rest) a w := by
  obtain ⟨i0, hi, hz0, hz1, hz2⟩ := info_parts infoN
  refine wpList_plain hg fun K hK' => ?_
  have hr := run_make (P := Try.prog) w 22 32 i0 _ Try.underlying22 hi hz0 kl kc (n : Int) (n : Int) (by omega) (by omega) (by rw [hz2]; omega) (by omega)
  unfold Oper.wp
  simp [execOp, hop, hl, hc, hr, Result.andThen]
  refine hK' _ _ (hK _ _ (heap_alloc_new _ _) ?_ ((Below.refl _ _).alloc (Nat.le_refl _) _))
  rw [hz1]
  simp [madeCells]

theorem wpList_cpN {w : World} {ops : Array Oper} {rest : List Oper} {o : Oper} {a : Act} {Q : Exit → Act → World → Prop} (hgd : o.guard = none) (d s : Operand)
    (ho : o.op = .call { callee := .builtin .copy, args := #[d, s], argTypes := #[22, 22] }) (g dCap : Nat) (v : Value) (l : List (Array Value)) (hd : a.eval d = .slice (some ⟨g, 0, none⟩) l.length dCap) (hs : a.eval s = v) (hsp : SR 20 w v l)
    (hz : ∀ A ∈ l, A.size = 20) (h1 : ∀ A ∈ l, A.all (·.oneCell') = true) (cur : Array Value) (hg : w.heap[g]? = some (.cells cur 32 (0, 0))) (hc : cur.size = l.length * 20)
    (h : ∀ w', w'.heap[g]? = some (.cells (flat l).toArray 32 (0, 0)) → (∀ k, k ≠ g → w'.heap[k]? = w.heap[k]?) → w'.heap.size = w.heap.size → w'.os = w.os → w'.tape = w.tape → w'.output = w.output → wpList Try.prog ops Q rest (a.put o.dst (goInt l.length)) w') :
    wpList Try.prog ops Q (o :: rest) a w := by
  have hsz : (Try.prog.info? 32).map (·.size) = some 20 := by kernel_rfl
  have hfl := flat_len l hz
  refine wpList_plain hgd fun K hK => ?_
  obtain ⟨ao, cap, rfl, k1, k2, k3⟩ := hsp
  unfold Oper.wp
  by_cases h0 : l.length = 0
  · obtain rfl : l = [] := List.eq_nil_of_length_eq_zero h0
    have hr := run_copy_zero (P := Try.prog) w 22 22 o.type 32 ⟨g, 0, none⟩ ao dCap cap Try.underlying22 (by rw [hsz]; rfl)
    simp only [List.length_nil] at hd hs h
    simp [execOp, ho, resolve, invoke, builtin, hd, hs, hr, Result.andThen]
    refine hK _ _ (h w ?_ (fun _ _ => rfl) rfl rfl rfl rfl)
    rw [hg]
    have : cur = #[] := Array.eq_empty_of_size_eq_zero (by simpa using hc)
    rw [this]; rfl
  · obtain ⟨b, of, rfl, -, hrg⟩ := k3 (by omega)
    have hr := run_copy_rows (P := Try.prog) w 22 22 o.type 32 g dCap l.length 20 ⟨b, of, none⟩ cap cur 32 (flat l) Try.underlying22 hsz hg hfl (sr_cells hz (by omega) hrg) (by rw [hfl, hc]; exact Nat.le_refl _) (flat_one l h1)
    simp [execOp, ho, resolve, invoke, builtin, hd, hs, hr, Result.andThen]
    refine hK _ _ (h _ ?_ (fun k hk => setRow_other w g k _ hk) (by simp [World.setRow]) rfl rfl rfl)
    rw [setRow_heap w g cur _ 32 _ hg]
    have : cur.toList.drop (flat l).length = [] := List.drop_eq_nil_of_le (by rw [hfl, Array.length_toList, hc]; exact Nat.le_refl _)
    rw [this, List.append_nil]

/-- The law's copied: the entries in new memory. -/
theorem copiedN_any (v : Value) (R : List (Array Value)) (w : World) (h : SR 20 w v R) (hz : ∀ A ∈ R, A.size = 20) (h1 : ∀ A ∈ R, A.all (·.oneCell') = true) (hn : R.length ≤ 733007751830) :
    Calls Try.prog 6 #[v] w fun e w' => e = .returned (.slice (some ⟨w.heap.size, 0, none⟩) R.length R.length) ∧ w'.heap[w.heap.size]? = some (.cells (flat R).toArray 32 (0, 0)) ∧ Below w.heap.size w w' := by
  have HV := hide h
  have HZ := hide hz
  have H1 := hide h1
  obtain ⟨a2, c2, rfl, e1, e2⟩ := h.open
  clear h hz h1
  go_enter Try.func6, Try.ntmps6
  go_wp2_with (at_make; refine wpList_mkN rfl _ _ rfl _ _ R.length rfl rfl (by omega) ?_)
  intro w1 cur hg1 hc1 hb1
  have hV1 := HV.out.low hb1
  go_wp2_with (refine wpList_cpN rfl _ _ rfl w.heap.size R.length (.slice a2 R.length c2) R rfl rfl hV1 HZ.out H1.out cur hg1 hc1 ?_)
  intro w2 hg2 ho2 hs2 q1 q2 q3
  have HB2 : Hid (Below w.heap.size w w2) := ⟨q1.trans hb1.os, q2.trans hb1.tape, q3.trans hb1.output, by rw [hs2]; exact hb1.size, fun k hk => (ho2 k (by omega)).trans (hb1.block k hk)⟩
  have HG2 := hide hg2
  clear hg1 hc1 hb1 hV1 hg2 ho2 hs2 q1 q2 q3
  go_wp2
  go_ret
  exact ⟨rfl, HG2.out, HB2.out⟩

/-- One record more behind a full row: a new row. -/
theorem wpList_apN {w : World} {ops : Array Oper} {rest : List Oper} {o : Oper} {a : Act} {Q : Exit → Act → World → Prop} (hgd : o.guard = none) (s x : Operand)
    (ho : o.op = .call { callee := .builtin .append, args := #[s, x], argTypes := #[22, 22] }) (g b : Nat) (R : List (Array Value)) (B : Array Value) (hv : a.eval s = .slice (some ⟨g, 0, none⟩) R.length R.length) (hx : a.eval x = .slice (some ⟨b, 0, none⟩) 1 1)
    (hz : ∀ A ∈ R, A.size = 20) (hg : w.heap[g]? = some (.cells (flat R).toArray 32 (0, 0))) (hb : w.heap[b]? = some (.cells B 32 (0, 0))) (hB : B.size = 20) (hB1 : B.all (·.oneCell') = true) (hn : R.length ≤ 733007751830)
    (h : ∀ w' cap X, R.length + 1 ≤ cap → cap ≤ 9223372036854775807 → w'.heap[w.heap.size]? = some (.cells (flat R ++ (B.toList ++ X)).toArray 32 (0, 0)) → Below w.heap.size w w' → wpList Try.prog ops Q rest (a.put o.dst (.slice (some ⟨w.heap.size, 0, none⟩) (R.length + 1) cap)) w') :
    wpList Try.prog ops Q (o :: rest) a w := by
  obtain ⟨i, hi, hz0, hsz, hby⟩ := info_parts infoN
  refine wpList_plain hgd fun K hK => ?_
  have hfl := flat_len R hz
  have hs : Src Try.prog i.size 22 (.slice (some ⟨b, 0, none⟩) 1 1) 1 B.toList w := by
    rw [hsz]
    refine Src.ofSlice w Try.underlying22 ⟨b, 0, none⟩ 1 1 B.toList (by rw [Array.length_toList, hB]) (fun j u hj => ?_) (fun u hu => (Array.all_eq_true_iff_forall_mem.1 hB1) u (by simpa using hu))
    rw [Addr.add_lit, Nat.zero_add]
    simp only [World.cell?, hb]
    simpa using hj
  have hold : ∀ j u, (flat R)[j]? = some u → w.drew.cell? ((⟨g, 0, none⟩ : Addr).add j) = some u := fun j u hj => by
    rw [Addr.add_lit, Nat.zero_add]
    show w.cell? _ = _
    simp only [World.cell?, hg]
    simpa using hj
  have hr := run_append_grow_src (P := Try.prog) w 22 22 o.type 32 i _ Try.underlying22 hi hz0 (some ⟨g, 0, none⟩) R.length R.length (flat R) (run_firstCells_some w.drew i.size R.length ⟨g, 0, none⟩ R.length R.length _ (by rw [hsz]; exact hfl) hold) (.slice (some ⟨b, 0, none⟩) 1 1) 1 B.toList hs (by omega) (by omega) (by rw [hby]; exact growslice_fits (by omega) (by omega))
  generalize Builtin.zeroCells _ _ = ZL at hr
  unfold Oper.wp
  simp [execOp, ho, resolve, invoke, builtin, hv, hx, hr, Result.andThen]
  refine hK _ _ (h _ _ ZL.toList (grownCap_ge w (R.length + 1) R.length 32) ?_ ?_ ((Below.refl _ _).drew.alloc (Nat.le_refl _) _))
  · have := grownCap_le_maxLen w (R.length + 1) R.length 32 (by unfold maxLen; omega)
    unfold maxLen at this
    exact this
  · refine (heap_alloc_new w.drew _).trans ?_
    congr 2
    apply Array.ext'
    simp [List.append_assoc]
end Go.Proofs.Ytmbgjkghcpkoiaa

