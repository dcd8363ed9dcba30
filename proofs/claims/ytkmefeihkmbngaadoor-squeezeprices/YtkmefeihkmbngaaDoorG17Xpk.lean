import Derived.Test.YtkmefeihkmbngaaDoorG16Nde
import Derived.Test.YtkmefeihkmbngaaDoorG05Pks
namespace Go.Proofs.YtkmefeihkmbngaaDoor
open Go.RowKit Go.Maps
set_option maxRecDepth 20000
set_option linter.unusedVariables false

theorem xused_any6 (v : Value) (l : List Int) (w : World) (h : SI w v l) (hr : l.length ≤ 288) :
    Calls Tryd.prog 63 #[v] w fun e w' => ∃ a c, e = .returned (.slice a (us6 l).length c) ∧ OI w' w.heap.size (.slice a (us6 l).length c) (ci (us6 l)) ∧ Below w.heap.size w w' := by
  have HS := hide h
  obtain ⟨ao, cap, rfl, hlc, hcm⟩ := h.open
  clear h
  go_enter Tryd.func63, Tryd.ntmps63
  go_wp2
  go_loopw [3, 4] (fun u i wr => ∃ k : Nat, k ≤ l.length ∧ i = .int .i64 k ∧ Hid (OI wr w.heap.size u (ci (usk l k))) ∧ Hid (Below w.heap.size w wr)) (fun _ i _ => l.length - (intOf i).toNat)
  case atStart => exact ⟨0, Nat.zero_le _, rfl, hide (show OI _ _ _ [] from World.ownsRow_nil _ _ _ _), Below.refl _ _⟩
  case round =>
    obtain ⟨k, hk, rfl, HO, HB⟩ := hrel
    by_cases hlt : k < l.length
    · have hlt' : (k : Int) < (l.length : Int) := by omega
      obtain ⟨b, o, rfl, hc⟩ := HS.out.get HB.out hlt
      have HD : Hid (ci (usk l (k + 1)) = ci (usk l k) ++ if 0 < l.getD k 0 then [(k : Int)] else []) := by
        show _ = _
        rw [usk_succ]
        unfold ci
        rw [List.map_append]
        by_cases q : 0 < l.getD k 0
        · rw [if_pos q, if_pos q]; rfl
        · rw [if_neg q, if_neg q]; rfl
      have hDl0 := usk_len l k
      obtain ⟨y, HY⟩ : ∃ y, Hid (y = l.getD k 0) := ⟨_, rfl⟩
      rw [← HY.out] at hc HD
      obtain ⟨D, HDD⟩ : ∃ D, Hid (D = ci (usk l k)) := ⟨_, rfl⟩
      have hDl : D.length ≤ k := by rw [HDD.out, ci_len]; exact hDl0
      rw [← HDD.out] at HO HD
      clear hDl0
      have hBw := HB.out.size
      obtain ⟨a1, p1, hu⟩ := HO.out.shape
      subst hu
      by_cases hy : 0 < y
      · have HE : Hid (ci (usk l (k + 1)) = D ++ [(k : Int)]) := by show _ = _; rw [HD.out, if_pos hy]
        have HALC : Hid (OI (wr.alloc (.cells #[.int .i64 (k : Int)] 3)) w.heap.size (.slice a1 D.length p1) D) := HO.out.alloc _
        have HSR : Hid (Src Tryd.prog 1 23 (.slice (some ⟨wr.heap.size, 0, none⟩) 1 1) ([(k : Int)] : List Int).length (([(k : Int)] : List Int).map (Value.int .i64)) (wr.alloc (.cells #[.int .i64 (k : Int)] 3))) := built_srcI wr [(k : Int)]
        go_wp2_with (at_builtin; refine wpList_appI rfl _ _ 23 rfl w.heap.size _ _ D [(k : Int)] rfl HALC.out rfl HSR.out (by simp; omega) (by simp; omega) ?_)
        intro v3 w3 ho3 hgr3
        have HN : Hid (OI w3 w.heap.size v3 (ci (usk l (k + 1))) ∧ Below w.heap.size w w3) := ⟨by rw [HE.out]; exact ho3, grow_one HB.out HO.out hgr3⟩
        clear ho3 hgr3
        go_wp2
        go_roundw
        case rel => exact ⟨k + 1, by omega, by go_num, HN.out.1, HN.out.2⟩
        case measure => simp [intOf]; omega
      · have HE : Hid (OI wr w.heap.size (.slice a1 D.length p1) (ci (usk l (k + 1)))) := by show OI _ _ _ _; rw [HD.out, if_neg hy, List.append_nil]; exact HO.out
        go_wp2
        go_roundw
        case rel => exact ⟨k + 1, by omega, by go_num, HE, HB⟩
        case measure => simp [intOf]; omega
    · obtain rfl : k = l.length := by omega
      have hlt' : ¬ (l.length : Int) < (l.length : Int) := by omega
      have HF : Hid (OI wr w.heap.size u3 (ci (us6 l))) := HO.out
      clear HO
      obtain ⟨a1, p1, hu⟩ := HF.out.shape
      rw [ci_len] at hu
      subst hu
      go_wp2
      go_ret
      exact ⟨_, _, rfl, HF.out, HB.out⟩

theorem zeros_any (n : Nat) (w : World) (hn : n ≤ 288) :
    Calls Tryd.prog 49 #[.int .i64 n] w fun e w' => ∃ a c, e = .returned (.slice a n c) ∧ OI w' w.heap.size (.slice a n c) (List.replicate n 0) ∧ Below w.heap.size w w' := by
  go_enter Tryd.func49, Tryd.ntmps49
  go_wp2
  go_loopw [3, 4] (fun u i wr => ∃ k : Nat, k ≤ n ∧ i = .int .i64 k ∧ Hid (OI wr w.heap.size u (List.replicate k 0)) ∧ Hid (Below w.heap.size w wr)) (fun _ i _ => n - (intOf i).toNat)
  case atStart => exact ⟨0, Nat.zero_le _, rfl, World.ownsRow_nil _ _ _ _, Below.refl _ _⟩
  case round =>
    obtain ⟨k, hk, rfl, HO, HB⟩ := hrel
    by_cases hlt : k < n
    · have hlt' : (k : Int) < (n : Int) := by omega
      have HD : Hid (List.replicate (k + 1) (0 : Int) = List.replicate k 0 ++ [0]) := List.replicate_succ'
      obtain ⟨D, HDD⟩ : ∃ D : List Int, Hid (D = List.replicate k 0) := ⟨_, hide rfl⟩
      have hDl : D.length ≤ k := by rw [HDD.out, List.length_replicate]; exact Nat.le_refl _
      rw [← HDD.out] at HO HD
      have hBw := HB.out.size
      obtain ⟨a1, p1, hu⟩ := HO.out.shape
      subst hu
      have HALC : Hid (OI (wr.alloc (.cells #[.int .i64 0] 3)) w.heap.size (.slice a1 D.length p1) D) := HO.out.alloc _
      have HSR : Hid (Src Tryd.prog 1 23 (.slice (some ⟨wr.heap.size, 0, none⟩) 1 1) ([0] : List Int).length (([0] : List Int).map (Value.int .i64)) (wr.alloc (.cells #[.int .i64 0] 3))) := built_srcI wr [0]
      go_wp2_with (at_builtin; refine wpList_appI rfl _ _ 23 rfl w.heap.size _ _ D [0] rfl HALC.out rfl HSR.out (by simp; omega) (by simp; omega) ?_)
      intro v3 w3 ho3 hgr3
      have HN : Hid (OI w3 w.heap.size v3 (List.replicate (k + 1) 0) ∧ Below w.heap.size w w3) := ⟨by rw [HD.out]; exact ho3, grow_one HB.out HO.out hgr3⟩
      clear ho3 hgr3
      go_wp2
      go_roundw
      case rel => exact ⟨k + 1, by omega, by go_num, HN.out.1, HN.out.2⟩
      case measure => simp [intOf]; omega
    · obtain rfl : k = n := by omega
      have hlt' : ¬ (k : Int) < (k : Int) := by omega
      obtain ⟨a1, p1, hu⟩ := HO.out.shape
      rw [List.length_replicate] at hu
      subst hu
      go_wp2
      go_ret
      exact ⟨_, _, rfl, HO.out, HB.out⟩

def mro (M : List Mnd) : List Nod := M.map (·.1)

theorem mro_len (M : List Mnd) : (mro M).length = M.length := by simp [mro]
theorem mro_get (M : List Mnd) (i : Nat) : (mro M).getD i nod0 = (M.getD i mn0).1 := by
  simp only [mro, List.getD_eq_getElem?_getD, List.getElem?_map]
  cases M[i]? <;> rfl

end Go.Proofs.YtkmefeihkmbngaaDoor

namespace Go.Proofs.YtkmefeihkmbngaaDoor
open Go.RowKit Go.Maps
set_option maxRecDepth 20000
set_option linter.unusedVariables false

theorem step_appI {ops : Array Oper} {o : Oper} {a : Act} {w : World} {K : Act → World → Prop} {Q : Exit → Act → World → Prop} {E : Prop} (hgd : o.guard = none) (s x : Operand)
    (ho : o.op = .call { callee := .builtin .append, args := #[s, x], argTypes := #[23, 23] }) (base : Nat) (v xv : Value) (l news : List Int) (hv : a.eval s = v) (hown : OI w base v l) (hx : a.eval x = xv) (hs : Src Tryd.prog 1 23 xv news.length (news.map (Value.int .i64)) w)
    (hb : l.length + news.length ≤ 17592186044416) (hbase : base ≤ w.heap.size)
    (h : ∀ v' w', OI w' base v' (l ++ news) → Grew w w' v v' → K (a.put o.dst v') w') :
    if Region.wanted o (yielded ops a.tmps) = true then Oper.wp Tryd.prog o a w K Q else E := by
  have hw : Region.wanted o (yielded ops a.tmps) = true := by simp [Region.wanted, hgd]
  rw [if_pos hw]
  obtain ⟨v', w', hr, h2, h3, _⟩ := run_appI w base 23 o.type v xv l news hown hs hb hbase
  unfold Oper.wp
  simp [execOp, ho, resolve, invoke, builtin, hv, hx, hr, Result.andThen]
  exact h v' w' h2 h3

structure Cst (wC : World) (gC : Nat) (a : Int) (hv : Value) (l : List Nat) (W : World) : Prop where
  bel : Below gC wC W
  box : W.heap[gC]? = some (.cells #[.int .i64 a, hv] 77 (0, 0))
  own : OI W gC hv (ci l)

theorem Cst.cells {wC : World} {gC : Nat} {a : Int} {hv : Value} {l : List Nat} {W : World} (h : Cst wC gC a hv l W) : W.cell? ⟨gC, 0, none⟩ = some (.int .i64 a) ∧ W.cell? ⟨gC, 1, none⟩ = some hv ∧ W.frozen? ⟨gC, 1, none⟩ = false ∧ gC < W.heap.size := by
  have hlt : gC < W.heap.size := (Array.getElem?_eq_some_iff.1 h.box).1
  refine ⟨?_, ?_, ?_, hlt⟩
  · unfold World.cell?; simp only [h.box]; rfl
  · unfold World.cell?; simp only [h.box]; rfl
  · unfold World.frozen?; simp [h.box]

end Go.Proofs.YtkmefeihkmbngaaDoor

namespace Go.Proofs.YtkmefeihkmbngaaDoor
open Go.RowKit Go.Maps
set_option maxRecDepth 20000
set_option linter.unusedVariables false

end Go.Proofs.YtkmefeihkmbngaaDoor

namespace Go.Proofs.YtkmefeihkmbngaaDoor
open Go.RowKit Go.Maps
set_option maxRecDepth 20000
set_option linter.unusedVariables false
set_option linter.unusedSimpArgs false

theorem OI.shp {w : World} {base : Nat} {v : Value} {l : List Int} (h : OI w base v l) : ∃ a n c, v = .slice a n c := by
  obtain ⟨a, c, rfl⟩ := h.shape
  exact ⟨_, _, _, rfl⟩

theorem one_oi (W : World) (x : Int) : OI (W.alloc (.cells #[.int .i64 x] 3)) 0 (.slice (some ⟨W.heap.size, 0, none⟩) 1 1) [x] := by
  have := OI.of_full (w := W.alloc (.cells #[.int .i64 x] 3)) (base := 0) (g := W.heap.size) (l := [x]) (heap_alloc_new W _) (Nat.zero_le _) (by unfold maxLen; simp)
  exact this

theorem Cst.app2 {wC : World} {gC : Nat} {a : Int} {hv v' : Value} {l : List Nat} {W V w6 : World} {o : Obj} (h : Cst wC gC a hv l W) (x : Nat) (hCs : gC ≤ wC.heap.size) (hV : V.heap = (W.alloc o).heap) (h1 : V.os = W.os) (h2 : V.tape = W.tape) (h3 : V.output = W.output) (ho : OI w6 gC v' (ci l ++ [(x : Int)])) (hg : Grew V w6 hv v') : w6.cell? ⟨gC, 1, none⟩ = some hv ∧ w6.frozen? ⟨gC, 1, none⟩ = false ∧ Cst wC gC a v' (l ++ [x]) (w6.setCell ⟨gC, 1, none⟩ v') := by
  have hlt := h.cells.2.2.2
  have hne : hv.ownBlock ≠ some gC := fun e => by
    rcases h.own.2 with ⟨rfl, _⟩ | ⟨g, cap, cur, rfl, _, hg', _⟩
    · simp [Value.ownBlock] at e
    · simp only [Value.ownBlock, Option.some.injEq] at e
      subst e
      rw [h.box] at hg'
      simp at hg'
  have hbox6 : w6.heap[gC]? = some (.cells #[.int .i64 a, hv] 77 (0, 0)) := by
    rw [hg.by.block gC (by rw [hV]; simp; omega) (fun e => hne e.symm), hV, Below.heap_alloc W o gC hlt]
    exact h.box
  have hne' : v'.ownBlock ≠ some gC := fun e => by
    rcases ho.2 with ⟨rfl, _⟩ | ⟨g, cap, cur, rfl, _, hg', _⟩
    · simp [Value.ownBlock] at e
    · simp only [Value.ownBlock, Option.some.injEq] at e
      subst e
      rw [hbox6] at hg'
      simp at hg'
  refine ⟨by unfold World.cell?; simp only [hbox6]; rfl, by unfold World.frozen?; simp [hbox6], ?_, ?_, ?_⟩
  · have hbA : Below gC wC (W.alloc o) := h.bel.alloc (Nat.le_trans hCs h.bel.size) _
    have hbV : Below gC wC V := ⟨h1.trans h.bel.os, h2.trans h.bel.tape, h3.trans h.bel.output, by rw [hV]; exact hbA.size, fun k hk => by rw [hV]; exact hbA.block k hk⟩
    have hb6 : Below gC wC w6 := hbV.grown hg.by (by have := h.bel.size; rw [hV]; simp; omega) (fun j hj => (h.own.lt j hj).1)
    exact hb6.setCell (p := ⟨gC, 1, none⟩) (Nat.le_refl _) _
  · rw [heap_setCell_at _ hbox6]
    rfl
  · have e : ci (l ++ [x]) = ci l ++ [(x : Int)] := by simp [ci]
    rw [e]
    exact ho.move fun k hk => setCell_others _ _ _ _ k (fun q => hne' (by rw [← q]; exact hk))

structure Rw1d (gC : Nat) (w7 : World) (hv : Value) (L : List Nat) (x : Nat) (a : Int) (wr : World) : Prop where
  row : ∀ W : World, W.heap = (wr.alloc (.cells #[.int .i64 (x : Int)] 3)).heap → OI W gC hv (ci L)
  src : ∀ W : World, W.heap = (wr.alloc (.cells #[.int .i64 (x : Int)] 3)).heap → Src Tryd.prog 1 23 (.slice (some ⟨wr.heap.size, 0, none⟩) 1 1) ([(x : Int)] : List Int).length (([(x : Int)] : List Int).map (Value.int .i64)) W
  siz : ∀ W : World, W.heap = (wr.alloc (.cells #[.int .i64 (x : Int)] 3)).heap → gC ≤ W.heap.size
  app : ∀ (V w6 : World) (v' : Value), V.heap = (wr.alloc (.cells #[.int .i64 (x : Int)] 3)).heap → V.os = wr.os → V.tape = wr.tape → V.output = wr.output → OI w6 gC v' (ci L ++ [(x : Int)]) → Grew V w6 hv v' → w6.cell? ⟨gC, 1, none⟩ = some hv ∧ w6.frozen? ⟨gC, 1, none⟩ = false ∧ Cst w7 gC a v' (L ++ [x]) (w6.setCell ⟨gC, 1, none⟩ v')

theorem Cst.rw1d {w7 wr : World} {a : Int} {hv : Value} {L : List Nat} (h : Cst w7 w7.heap.size a hv L wr) (x : Nat) : Rw1d w7.heap.size w7 hv L x a wr :=
  ⟨fun W hW => h.own.move fun k hk => by rw [hW]; exact Below.heap_alloc _ _ k (h.own.lt k hk).2, fun W hW => ((one_oi wr (x : Int)).move (w' := W) fun k hk => by rw [hW]).sb.src, fun W hW => by rw [hW]; have := h.cells.2.2.2; simp; omega, fun V w6 v' e1 e2 e3 e4 ho hg => h.app2 x (Nat.le_refl _) e1 e2 e3 e4 ho hg⟩

end Go.Proofs.YtkmefeihkmbngaaDoor

namespace Go.Proofs.YtkmefeihkmbngaaDoor
open Go.RowKit Go.Maps
set_option maxRecDepth 20000
set_option linter.unusedVariables false
set_option linter.unusedSimpArgs false

def mmg : List Mnd → List Mnd → List Mnd
  | [], p => p
  | a :: w, [] => a :: w
  | a :: w, b :: p => if a.1.1 ≤ b.1.1 then a :: mmg w (b :: p) else b :: mmg (a :: w) p
termination_by w p => w.length + p.length

theorem mmg_row (A B : List Mnd) : mro (mmg A B) = nmg (mro A) (mro B) := by
  induction A, B using mmg.induct with
  | case1 p => simp [mmg, nmg, mro]
  | case2 a w => simp [mmg, nmg, mro]
  | case3 a w b p h ih =>
    have e : mro (a :: w) = a.1 :: mro w := rfl
    have e2 : mro (b :: p) = b.1 :: mro p := rfl
    rw [mmg, if_pos h, e, e2, nmg, if_pos h, ← e2, ← ih]
    rfl
  | case4 a w b p h ih =>
    have e : mro (a :: w) = a.1 :: mro w := rfl
    have e2 : mro (b :: p) = b.1 :: mro p := rfl
    rw [mmg, if_neg h, e, e2, nmg, if_neg h, ← e, ← ih]
    rfl

theorem mmg_nil (A : List Mnd) : mmg A [] = A := by cases A <;> simp [mmg]

theorem mmg_mem {A B : List Mnd} {p : Mnd} (h : p ∈ mmg A B) : p ∈ A ∨ p ∈ B := by
  induction A, B using mmg.induct with
  | case1 q => rw [mmg] at h; exact .inr h
  | case2 a w => rw [mmg] at h; exact .inl h
  | case3 a w b q c ih =>
    rw [mmg, if_pos c] at h
    rcases List.mem_cons.1 h with h | h
    · exact .inl (List.mem_cons.2 (.inl h))
    · rcases ih h with h | h
      · exact .inl (List.mem_cons_of_mem _ h)
      · exact .inr h
  | case4 a w b q c ih =>
    rw [mmg, if_neg c] at h
    rcases List.mem_cons.1 h with h | h
    · exact .inr (List.mem_cons.2 (.inl h))
    · rcases ih h with h | h
      · exact .inl h
      · exact .inr (List.mem_cons_of_mem _ h)

theorem mdrop {A : List Mnd} {i : Nat} (h : i < A.length) : A.drop i = A.getD i mn0 :: A.drop (i + 1) := by
  rw [List.drop_eq_getElem_cons h]
  simp [h]

theorem mmg_a {A B : List Mnd} {i j : Nat} (hi : i < A.length) (h : B.length ≤ j ∨ (A.getD i mn0).1.1 ≤ (B.getD j mn0).1.1) : mmg (A.drop i) (B.drop j) = A.getD i mn0 :: mmg (A.drop (i + 1)) (B.drop j) := by
  rw [mdrop hi]
  by_cases hj : j < B.length
  · rw [mdrop hj, mmg, if_pos (h.resolve_left (by omega))]
  · rw [List.drop_of_length_le (l := B) (by omega), mmg_nil, mmg_nil]

theorem mmg_b {A B : List Mnd} {i j : Nat} (hj : j < B.length) (h : A.length ≤ i ∨ (B.getD j mn0).1.1 < (A.getD i mn0).1.1) : mmg (A.drop i) (B.drop j) = B.getD j mn0 :: mmg (A.drop i) (B.drop (j + 1)) := by
  rw [mdrop hj]
  by_cases hi : i < A.length
  · rw [mdrop hi, mmg, if_neg (by have := h.resolve_left (by omega); omega)]
  · rw [List.drop_of_length_le (l := A) (by omega), mmg, mmg]

set_option maxHeartbeats 2000000 in
theorem merged_any (v1 v2 : Value) (A B : List Mnd) (w : World) (b1 b2 : Nat) (h1 : ON w b1 v1 A) (h2 : ON w b2 v2 B) (l1 : A.length ≤ 1000) (l2 : B.length ≤ 1000) :
    Calls Tryd.prog 51 #[v1, v2] w fun e w' => ∃ v', e = .returned v' ∧ ON w' w.heap.size v' (mmg A B) ∧ Below w.heap.size w w' := by
  have HA := hide h1
  have HB := hide h2
  obtain ⟨aa, ca, rfl, ha1, ha2⟩ := h1.shape
  obtain ⟨ab, cb, rfl, hb1, hb2⟩ := h2.shape
  clear h1 h2
  obtain ⟨na, hna⟩ : ∃ n, n = A.length := ⟨_, rfl⟩
  obtain ⟨nb, hnb⟩ : ∃ n, n = B.length := ⟨_, rfl⟩
  rw [← hna] at HA ha1 l1 ⊢
  rw [← hnb] at HB hb1 l2 ⊢
  have HNA := hide hna
  have HNB := hide hnb
  clear hna hnb
  go_enter Tryd.func51, Tryd.ntmps51
  go_wp2
  go_loopw [5, 6, 7] (fun u vi vj wr => ∃ (i j : Nat) (D : List Mnd), i ≤ na ∧ j ≤ nb ∧ vi = .int .i64 (i : Int) ∧ vj = .int .i64 (j : Int) ∧ D.length ≤ i + j ∧ Hid (ON wr w.heap.size u D) ∧ Hid (Below w.heap.size w wr) ∧ Hid (D ++ mmg (A.drop i) (B.drop j) = mmg A B)) (fun _ vi vj _ => na + nb - ((intOf vi).toNat + (intOf vj).toNat))
  case atStart => exact ⟨0, 0, [], Nat.zero_le _, Nat.zero_le _, rfl, rfl, Nat.zero_le _, ⟨World.ownsRow_nil _ _ _ _, fun p hp => by simp at hp⟩, Below.refl _ _, by rw [List.drop_zero, List.drop_zero]; rfl⟩
  case round =>
    obtain ⟨i, j, D, hi, hj, rfl, rfl, hD, HN, HBW, HEQ⟩ := hrel
    obtain ⟨a1, p1, hu, _⟩ := HN.out.shape
    subst hu
    have hBw := HBW.out.size
    have HONA := hide (HA.out.below HBW.out (Nat.le_refl _))
    have HONB := hide (HB.out.below HBW.out (Nat.le_refl _))
    have HBD : Hid (∀ q, Below w.heap.size w (wr.drewN q)) := fun q => below_drewN HBW.out q
    have HND : Hid (∀ q, ON (wr.drewN q) w.heap.size (.slice a1 D.length p1) D) := fun q => HN.out.drewN q
    by_cases hia : i < na
    · have hia' : (i : Int) < (na : Int) := by omega
      have hiA : i < A.length := by rw [← HNA.out]; exact hia
      obtain ⟨gx, cx, hvx, xx1, xx2⟩ := HONA.out.get (i := i) (by rw [← HNA.out]; omega)
      simp only [Value.slice.injEq] at hvx
      obtain ⟨rfl, -, rfl⟩ := hvx
      have hhx := HONA.out.holds _ (md_mem (show i < A.length by rw [← HNA.out]; omega))
      obtain ⟨Px, HPx⟩ : ∃ p, Hid (p = A.getD i mn0) := ⟨_, hide rfl⟩
      rw [← HPx.out] at xx1 xx2 hhx
      obtain ⟨⟨wx, hx⟩, vx⟩ := Px
      obtain ⟨sx, dx, hqx⟩ := hhx.shape
      have hqx' : vx = .slice sx (ci hx).length dx := hqx
      subst hqx'
      obtain ⟨mx, hmx⟩ : ∃ m, m = (ci hx).length := ⟨_, rfl⟩
      rw [← hmx] at xx2 hhx HPx
      have xx1' : wr.cell? ⟨gx, i * 2, none⟩ = some (.int .i64 (wx : Int)) := xx1
      have xx2' : wr.cell? ⟨gx, i * 2 + 1, none⟩ = some (.slice sx mx dx) := xx2
      have HHOx : Hid (∀ q, OI (wr.drewN q) 0 (.slice sx mx dx) (ci hx)) := fun q => hhx.move fun _ _ => rfl
      clear hhx hqx hmx xx1 xx2
      by_cases hjb : j < nb
      · have hjb' : (j : Int) < (nb : Int) := by omega
        have hjne : ((j : Int) == (nb : Int)) = false := by simp; omega
        have hjne2 : ¬ (j : Int) = (nb : Int) := by omega
        have hjB : j < B.length := by rw [← HNB.out]; exact hjb
        obtain ⟨gy, cy, hvy, xy1, xy2⟩ := HONB.out.get (i := j) (by rw [← HNB.out]; omega)
        simp only [Value.slice.injEq] at hvy
        obtain ⟨rfl, -, rfl⟩ := hvy
        have hhy := HONB.out.holds _ (md_mem (show j < B.length by rw [← HNB.out]; omega))
        obtain ⟨Py, HPy⟩ : ∃ p, Hid (p = B.getD j mn0) := ⟨_, hide rfl⟩
        rw [← HPy.out] at xy1 xy2 hhy
        obtain ⟨⟨wy, hy⟩, vy⟩ := Py
        obtain ⟨sy, dy, hqy⟩ := hhy.shape
        have hqy' : vy = .slice sy (ci hy).length dy := hqy
        subst hqy'
        obtain ⟨my, hmy⟩ : ∃ m, m = (ci hy).length := ⟨_, rfl⟩
        rw [← hmy] at xy2 hhy HPy
        have xy1' : wr.cell? ⟨gy, j * 2, none⟩ = some (.int .i64 (wy : Int)) := xy1
        have xy2' : wr.cell? ⟨gy, j * 2 + 1, none⟩ = some (.slice sy my dy) := xy2
        have HHOy : Hid (∀ q, OI (wr.drewN q) 0 (.slice sy my dy) (ci hy)) := fun q => hhy.move fun _ _ => rfl
        clear hhy hqy hmy xy1 xy2
        by_cases hle : wx ≤ wy
        · have hle' : (wx : Int) ≤ (wy : Int) := by omega
          have HE2 : Hid ((D ++ [((wx, hx), .slice sx mx dx)]) ++ mmg (A.drop (i + 1)) (B.drop j) = mmg A B) := by
            show _ = _
            rw [← HEQ.out, mmg_a hiA (.inr (by rw [← HPx.out, ← HPy.out]; exact hle)), ← HPx.out, List.append_assoc]
            rfl
          clear HEQ
          go_wp2
          go_quiet (fail)
          go_wp2_with (at_builtin; refine wpNode rfl _ _ rfl w.heap.size (.slice a1 D.length p1) D ((wx, hx), .slice sx mx dx) _ rfl (HHOx.out _) rfl (HND.out _) _ rfl (by omega) (by simp; omega) ?_)
          intro v3 w3 ho3 hg3
          have HN3 := hide ho3
          have HB3 := hide (grow_node (HBD.out _) (Nat.le_refl _) (HND.out _) hg3)
          clear ho3 hg3
          go_wp2
          go_roundw
          case rel => exact ⟨(i + 1), j, _, by omega, by omega, by go_num, by go_num, by simp; omega, HN3, HB3, HE2⟩
          case measure => simp [intOf]; omega
        · have hle' : ¬ (wx : Int) ≤ (wy : Int) := by omega
          have HE2 : Hid ((D ++ [((wy, hy), .slice sy my dy)]) ++ mmg (A.drop i) (B.drop (j + 1)) = mmg A B) := by
            show _ = _
            rw [← HEQ.out, mmg_b hjB (.inr (by rw [← HPx.out, ← HPy.out]; exact Nat.lt_of_not_le hle)), ← HPy.out, List.append_assoc]
            rfl
          clear HEQ
          go_wp2
          go_quiet (fail)
          go_wp2_with (at_builtin; refine wpNode rfl _ _ rfl w.heap.size (.slice a1 D.length p1) D ((wy, hy), .slice sy my dy) _ rfl (HHOy.out _) rfl (HND.out _) _ rfl (by omega) (by simp; omega) ?_)
          intro v3 w3 ho3 hg3
          have HN3 := hide ho3
          have HB3 := hide (grow_node (HBD.out _) (Nat.le_refl _) (HND.out _) hg3)
          clear ho3 hg3
          go_wp2
          go_roundw
          case rel => exact ⟨i, (j + 1), _, by omega, by omega, by go_num, by go_num, by simp; omega, HN3, HB3, HE2⟩
          case measure => simp [intOf]; omega
      · obtain rfl : j = nb := by omega
        have hjB : B.length ≤ j := by rw [← HNB.out]; exact Nat.le_refl _
        have HE2 : Hid ((D ++ [((wx, hx), .slice sx mx dx)]) ++ mmg (A.drop (i + 1)) (B.drop j) = mmg A B) := by
          show _ = _
          rw [← HEQ.out, mmg_a hiA (.inl hjB), ← HPx.out, List.append_assoc]
          rfl
        clear HEQ
        go_wp2
        go_quiet (fail)
        go_wp2_with (at_builtin; refine wpNode rfl _ _ rfl w.heap.size (.slice a1 D.length p1) D ((wx, hx), .slice sx mx dx) _ rfl (HHOx.out _) rfl (HND.out _) _ rfl (by omega) (by simp; omega) ?_)
        intro v3 w3 ho3 hg3
        have HN3 := hide ho3
        have HB3 := hide (grow_node (HBD.out _) (Nat.le_refl _) (HND.out _) hg3)
        clear ho3 hg3
        go_wp2
        go_roundw
        case rel => exact ⟨(i + 1), j, _, by omega, by omega, by go_num, by go_num, by simp; omega, HN3, HB3, HE2⟩
        case measure => simp [intOf]; omega
    · obtain rfl : i = na := by omega
      have hiA : A.length ≤ i := by rw [← HNA.out]; exact Nat.le_refl _
      have hia' : ¬ (i : Int) < (i : Int) := by omega
      by_cases hjb : j < nb
      · have hjb' : (j : Int) < (nb : Int) := by omega
        have hjne : ((j : Int) == (nb : Int)) = false := by simp; omega
        have hjne2 : ¬ (j : Int) = (nb : Int) := by omega
        have hjB : j < B.length := by rw [← HNB.out]; exact hjb
        obtain ⟨gy, cy, hvy, xy1, xy2⟩ := HONB.out.get (i := j) (by rw [← HNB.out]; omega)
        simp only [Value.slice.injEq] at hvy
        obtain ⟨rfl, -, rfl⟩ := hvy
        have hhy := HONB.out.holds _ (md_mem (show j < B.length by rw [← HNB.out]; omega))
        obtain ⟨Py, HPy⟩ : ∃ p, Hid (p = B.getD j mn0) := ⟨_, hide rfl⟩
        rw [← HPy.out] at xy1 xy2 hhy
        obtain ⟨⟨wy, hy⟩, vy⟩ := Py
        obtain ⟨sy, dy, hqy⟩ := hhy.shape
        have hqy' : vy = .slice sy (ci hy).length dy := hqy
        subst hqy'
        obtain ⟨my, hmy⟩ : ∃ m, m = (ci hy).length := ⟨_, rfl⟩
        rw [← hmy] at xy2 hhy HPy
        have xy1' : wr.cell? ⟨gy, j * 2, none⟩ = some (.int .i64 (wy : Int)) := xy1
        have xy2' : wr.cell? ⟨gy, j * 2 + 1, none⟩ = some (.slice sy my dy) := xy2
        have HHOy : Hid (∀ q, OI (wr.drewN q) 0 (.slice sy my dy) (ci hy)) := fun q => hhy.move fun _ _ => rfl
        clear hhy hqy hmy xy1 xy2
        have HE2 : Hid ((D ++ [((wy, hy), .slice sy my dy)]) ++ mmg (A.drop i) (B.drop (j + 1)) = mmg A B) := by
          show _ = _
          rw [← HEQ.out, mmg_b hjB (.inl hiA), ← HPy.out, List.append_assoc]
          rfl
        clear HEQ
        go_wp2
        go_quiet (fail)
        go_wp2_with (at_builtin; refine wpNode rfl _ _ rfl w.heap.size (.slice a1 D.length p1) D ((wy, hy), .slice sy my dy) _ rfl (HHOy.out _) rfl (HND.out _) _ rfl (by omega) (by simp; omega) ?_)
        intro v3 w3 ho3 hg3
        have HN3 := hide ho3
        have HB3 := hide (grow_node (HBD.out _) (Nat.le_refl _) (HND.out _) hg3)
        clear ho3 hg3
        go_wp2
        go_roundw
        case rel => exact ⟨i, (j + 1), _, by omega, by omega, by go_num, by go_num, by simp; omega, HN3, HB3, HE2⟩
        case measure => simp [intOf]; omega
      · obtain rfl : j = nb := by omega
        have hjb' : ¬ (j : Int) < (j : Int) := by omega
        have HF : Hid (ON wr w.heap.size (.slice a1 D.length p1) (mmg A B)) := by
          have e := HEQ.out
          rw [List.drop_of_length_le hiA, List.drop_of_length_le (by rw [← HNB.out]; exact Nat.le_refl _)] at e
          rw [mmg, List.append_nil] at e
          rw [← e]
          exact HN.out
        clear HEQ
        go_wp2
        go_ret
        exact ⟨_, rfl, HF.out, HBW.out⟩
end Go.Proofs.YtkmefeihkmbngaaDoor

namespace Go.Proofs.YtkmefeihkmbngaaDoor
open Go.RowKit Go.Maps
set_option maxRecDepth 20000
set_option linter.unusedVariables false
set_option linter.unusedSimpArgs false

def Abv (B : Nat) (M : List Mnd) : Prop := ∀ p ∈ M, ∀ k, p.2.ownBlock = some k → B ≤ k

theorem ndrop {R : List Nod} {i : Nat} (h : i < R.length) : R.drop i = R.getD i nod0 :: R.drop (i + 1) := by
  rw [List.drop_eq_getElem_cons h]
  simp [h]

theorem npk_step {R : List Nod} {i : Nat} (h : i + 1 < R.length) : npk (R.drop i) = ((R.getD i nod0).1 + (R.getD (i + 1) nod0).1, (R.getD i nod0).2 ++ (R.getD (i + 1) nod0).2) :: npk (R.drop (i + 2)) := by
  rw [ndrop (by omega : i < R.length), ndrop h, npk]

theorem npk_end {R : List Nod} {i : Nat} (h : R.length ≤ i + 1) : npk (R.drop i) = [] := by
  by_cases c : i < R.length
  · rw [ndrop c, List.drop_of_length_le (by omega), npk]
    simp
  · rw [List.drop_of_length_le (by omega), npk]
    simp

theorem two_le {R : List Nod} {i : Nat} (h : i + 1 < R.length) : (R.getD i nod0).1 + (R.getD (i + 1) nod0).1 ≤ (R.map (·.1)).sum ∧ (R.getD i nod0).2.length + (R.getD (i + 1) nod0).2.length ≤ (syms R).length := by
  have e : R = R.take i ++ (R.getD i nod0 :: R.getD (i + 1) nod0 :: R.drop (i + 2)) := by
    rw [← ndrop h, ← ndrop (by omega : i < R.length), List.take_append_drop]
  constructor
  · conv => rhs; rw [e]
    simp only [List.map_append, List.map_cons, List.sum_append, List.sum_cons]
    omega
  · conv => rhs; rw [e]
    simp only [syms, List.flatMap_append, List.flatMap_cons, List.length_append]
    omega

set_option maxHeartbeats 4000000 in
theorem packages_any (v : Value) (M : List Mnd) (w : World) (b0 : Nat) (h : ON w b0 v M) (h2 : M.length ≤ 1000) (hs : ((mro M).map (·.1)).sum ≤ 1000000000000000) (hy : (syms (mro M)).length ≤ 100000) :
    Calls Tryd.prog 50 #[v] w fun e w' => ∃ v', e = .returned v' ∧ ∃ M', ON w' w.heap.size v' M' ∧ mro M' = npk (mro M) ∧ Abv w.heap.size M' ∧ Below w.heap.size w w' := by
  have HO := hide h
  obtain ⟨ar, cr, rfl, hr1, hr2⟩ := h.shape
  clear h
  have HSY := hide hy
  have HSM := hide hs
  clear hs hy
  obtain ⟨n, hn⟩ : ∃ n, n = M.length := ⟨_, rfl⟩
  rw [← hn] at HO hr1 h2 ⊢
  have HNN := hide hn
  clear hn
  go_enter Tryd.func50, Tryd.ntmps50
  go_wp2
  go_loopw [3, 4] (fun u vi wr => ∃ (i : Nat) (D : List Mnd), i ≤ n + 1 ∧ vi = .int .i64 (i : Int) ∧ D.length ≤ i ∧ Hid (ON wr w.heap.size u D) ∧ Hid (Below w.heap.size w wr) ∧ Hid (mro D ++ npk ((mro M).drop i) = npk (mro M)) ∧ Hid (Abv w.heap.size D)) (fun _ vi _ => n + 2 - (intOf vi).toNat)
  case atStart => exact ⟨0, [], Nat.zero_le _, rfl, Nat.zero_le _, ⟨World.ownsRow_nil _ _ _ _, fun p hp => by simp at hp⟩, Below.refl _ _, by rw [List.drop_zero]; rfl, fun p hp => by simp at hp⟩
  case round =>
    obtain ⟨i, D, hi, rfl, hD, HN, HBW, HEQ, HAP⟩ := hrel
    obtain ⟨a1, p1, hu, _⟩ := HN.out.shape
    subst hu
    rename World => wo
    have hBw := HBW.out.size
    have hiw : IntKind.i64.wrap ((i : Int) + 1) = (i : Int) + 1 := by rw [IntKind.wrap_i64]; omega
    by_cases hlt : i + 1 < n
    · have hlt' : (i : Int) + 1 < (n : Int) := by omega
      have hlt0 : (i : Int) < (n : Int) := by omega
      have hi1M : i + 1 < M.length := by rw [← HNN.out]; exact hlt
      have hi0M : i < M.length := by omega
      have HOW := hide (HO.out.below HBW.out (Nat.le_refl _))
      have HST := hide (npk_step (R := mro M) (i := i) (by rw [mro_len]; exact hi1M))
      have htl := two_le (R := mro M) (i := i) (by rw [mro_len]; exact hi1M)
      rw [mro_get, mro_get] at htl HST
      have hsm2 := HSM.out
      have hsy2 := HSY.out
      obtain ⟨gp, cp, hvp, xp1, xp2⟩ := HOW.out.get (i := i) hi0M
      simp only [Value.slice.injEq] at hvp
      obtain ⟨rfl, -, rfl⟩ := hvp
      have hhp := HOW.out.holds _ (md_mem hi0M)
      obtain ⟨Np, HPp⟩ : ∃ p, Hid (p = M.getD i mn0) := ⟨_, hide rfl⟩
      rw [← HPp.out] at xp1 xp2 hhp htl HST
      obtain ⟨⟨pw, ph⟩, pv⟩ := Np
      obtain ⟨ap, dp, hqp⟩ := hhp.shape
      rw [ci_len] at hqp
      have hqp' : pv = .slice ap ph.length dp := hqp
      subst hqp'
      have HHp : Hid (OI wo 0 (.slice ap ph.length dp) (ci ph)) := hhp
      have xp1' : wo.cell? ⟨gp, i * 2, none⟩ = some (.int .i64 (pw : Int)) := xp1
      have HXp : Hid (wo.cell? ⟨gp, i * 2 + 1, none⟩ = some (.slice ap ph.length dp)) := xp2
      have hglp : gp < wo.heap.size := (HOW.out.lt gp rfl).2
      clear hhp hqp xp1 xp2
      obtain ⟨gq, cq, hvq, xq1, xq2⟩ := HOW.out.get (i := (i + 1)) hi1M
      simp only [Value.slice.injEq] at hvq
      simp only [Option.some.injEq, Addr.mk.injEq, and_true] at hvq
      obtain ⟨rfl, -, rfl⟩ := hvq
      have hhq := HOW.out.holds _ (md_mem hi1M)
      obtain ⟨Nq, HPq⟩ : ∃ p, Hid (p = M.getD (i + 1) mn0) := ⟨_, hide rfl⟩
      rw [← HPq.out] at xq1 xq2 hhq htl HST
      obtain ⟨⟨qw, qh⟩, qv⟩ := Nq
      obtain ⟨aq, dq, hqq⟩ := hhq.shape
      rw [ci_len] at hqq
      have hqq' : qv = .slice aq qh.length dq := hqq
      subst hqq'
      have HHq : Hid (OI wo 0 (.slice aq qh.length dq) (ci qh)) := hhq
      have xq1' : wo.cell? ⟨gp, (i + 1) * 2, none⟩ = some (.int .i64 (qw : Int)) := xq1
      have HXq : Hid (wo.cell? ⟨gp, (i + 1) * 2 + 1, none⟩ = some (.slice aq qh.length dq)) := xq2
      have hglq : gp < wo.heap.size := hglp
      clear hhq hqq xq1 xq2
      have hq1 : (pw : Int) + qw ≤ 1000000000000000 := by have : pw + qw ≤ ((mro M).map (·.1)).sum := htl.1; omega
      have hq2 : ph.length + qh.length ≤ 100000 := by have : ph.length + qh.length ≤ (syms (mro M)).length := htl.2; omega
      clear htl hsm2 hsy2
      have hidx : ((i : Int) + 1).toNat = i + 1 := by omega
      have hi0p : (0 : Int) ≤ (i : Int) + 1 := by omega
      have HAL : Hid (Below wo.heap.size wo (wo.alloc (.cells #[.int .i64 0, .slice none 0 0] 77))) := (Below.refl _ _).alloc (Nat.le_refl _) _
      have xp3 : (wo.alloc (.cells #[.int .i64 0, .slice none 0 0] 77)).cell? ⟨gp, i * 2, none⟩ = some (.int .i64 (pw : Int)) := by rw [HAL.out.cell hglp]; exact xp1'
      have xq3 : (wo.alloc (.cells #[.int .i64 0, .slice none 0 0] 77)).cell? ⟨gp, (i + 1) * 2, none⟩ = some (.int .i64 (qw : Int)) := by rw [HAL.out.cell hglp]; exact xq1'
      clear hglq
      have HC0 : Hid (Cst wo wo.heap.size ((pw : Int) + qw) (.slice none 0 0) [] (wo.alloc (.cells #[.int .i64 ((pw : Int) + qw), .slice none 0 0] 77)).drew) :=
        ⟨below_drewN ((Below.refl _ _).alloc (Nat.le_refl _) _) 1, heap_alloc_new wo _, World.ownsRow_nil _ _ _ _⟩
      go_wp2
      go_region
      clear xp3 xq3
      go_wp2
      go_loopw [6] (fun vi wr => ∃ k hv, k ≤ ph.length ∧ vi = .int .i64 (k : Int) ∧ Hid (Cst wo wo.heap.size ((pw : Int) + qw) hv (ph.take k) wr)) (fun vi _ => ph.length - (intOf vi).toNat)
      case atStart => exact ⟨0, .slice none 0 0, Nat.zero_le _, rfl, HC0⟩
      case round =>
        obtain ⟨k, hv, hk, rfl, HC⟩ := hrel
        have hbw := HC.out.bel
        have b1 : wr.cell? ⟨gp, i * 2 + 1, none⟩ = some (.slice ap ph.length dp) := by rw [hbw.cell hglp]; exact HXp.out
        by_cases hkt : k < ph.length
        · have hkt' : (k : Int) < (ph.length : Int) := by omega
          have ho := (HHp.out.below hbw (Nat.le_refl _))
          obtain ⟨ga, da, hva, hca⟩ := ho.form (by rw [ci_len]; omega)
          have hck := ho.get (b := ga) (by rw [hva]; rfl) (i := k) (by rw [ci_len]; omega)
          rw [ci_get] at hck
          have HTK : Hid (ph.take (k + 1) = (ph.take k) ++ [ph.getD k 0]) := by
            show _ = _
            rw [List.take_succ_eq_append_getElem hkt]
            simp [hkt]
          obtain ⟨x, HX⟩ : ∃ x, Hid (x = ph.getD k 0) := ⟨_, hide rfl⟩
          rw [← HX.out] at hck HTK
          simp only [Value.slice.injEq] at hva
          obtain ⟨rfl, -, rfl⟩ := hva
          obtain ⟨L, HL⟩ : ∃ L, Hid (L = ph.take k) := ⟨_, hide rfl⟩
          rw [← HL.out] at HC HTK
          have hLl : (ci L).length ≤ 1000000 := by rw [ci_len, HL.out]; simp; omega
          have HR1 := hide (HC.out.rw1d x)
          obtain ⟨d0, d1, df, hgl⟩ := HC.out.cells
          have d1' : (wr.alloc (.cells #[.int .i64 (x : Int)] 3)).cell? ⟨wo.heap.size, 1, none⟩ = some hv := by rw [((Below.refl wr.heap.size wr).alloc (Nat.le_refl _) _).cell hgl]; exact d1
          have HLEN : Hid ((ci L).length + ([(x : Int)] : List Int).length ≤ 17592186044416) := by show _ ≤ _; simp; omega
          clear hbw ho hca
          go_wp2
          go_region_law (refine step_appI (by rfl) _ _ (by rfl) wo.heap.size hv (.slice (some ⟨wr.heap.size, 0, none⟩) 1 1) (ci L) [(x : Int)] (by simp [Act.eval, Act.put]) (HR1.out.row _ (by rfl)) (by simp [Act.eval, Act.put]) (HR1.out.src _ (by rfl)) HLEN.out (HR1.out.siz _ (by rfl)) ?_; intro v6 wx ho6 hg6; obtain ⟨a6, n6, p6, hv6⟩ := ho6.shp; subst hv6; obtain ⟨t1, tf, hC6⟩ := HR1.out.app _ wx _ (by rfl) (by rfl) (by rfl) (by rfl) ho6 hg6; have HC6 := hide hC6; clear ho6 hg6 hC6)
          all_goals
            have HC7 : Hid (Cst wo wo.heap.size ((pw : Int) + qw) (.slice a6 n6 p6) (ph.take (k + 1)) (wx.setCell ⟨wo.heap.size, 1, none⟩ (.slice a6 n6 p6))) := by rw [HTK.out]; exact HC6.out
            clear HC6 HR1 d0 d1 df d1' t1 tf HC
            go_wp2
            go_roundw
            case rel => exact ⟨k + 1, _, by omega, by go_num, HC7⟩
            case measure => simp [intOf]; omega
        · obtain rfl : k = ph.length := by omega
          have hkt' : ¬ (ph.length : Int) < (ph.length : Int) := by omega
          have HCE : Hid (Cst wo wo.heap.size ((pw : Int) + qw) hv (ph) wr) := by
            have := HC.out
            rwa [List.take_of_length_le (Nat.le_refl _)] at this
          clear HC hbw
          go_wp2
          go_loopw [7] (fun vi wr => ∃ k hv, k ≤ qh.length ∧ vi = .int .i64 (k : Int) ∧ Hid (Cst wo wo.heap.size ((pw : Int) + qw) hv (ph ++ qh.take k) wr)) (fun vi _ => qh.length - (intOf vi).toNat)
          case atStart => exact ⟨0, _, Nat.zero_le _, rfl, by rw [List.take_zero, List.append_nil]; exact HCE⟩
          case round =>
            obtain ⟨k, hv, hk, rfl, HC⟩ := hrel
            have hbw := HC.out.bel
            have b1 : wr.cell? ⟨gp, (i + 1) * 2 + 1, none⟩ = some (.slice aq qh.length dq) := by rw [hbw.cell hglp]; exact HXq.out
            by_cases hkt : k < qh.length
            · have hkt' : (k : Int) < (qh.length : Int) := by omega
              have ho := (HHq.out.below hbw (Nat.le_refl _))
              obtain ⟨ga, da, hva, hca⟩ := ho.form (by rw [ci_len]; omega)
              have hck := ho.get (b := ga) (by rw [hva]; rfl) (i := k) (by rw [ci_len]; omega)
              rw [ci_get] at hck
              have HTK : Hid (ph ++ qh.take (k + 1) = (ph ++ qh.take k) ++ [qh.getD k 0]) := by
                show _ = _
                rw [List.take_succ_eq_append_getElem hkt]
                simp [hkt]
              obtain ⟨x, HX⟩ : ∃ x, Hid (x = qh.getD k 0) := ⟨_, hide rfl⟩
              rw [← HX.out] at hck HTK
              simp only [Value.slice.injEq] at hva
              obtain ⟨rfl, -, rfl⟩ := hva
              obtain ⟨L, HL⟩ : ∃ L, Hid (L = ph ++ qh.take k) := ⟨_, hide rfl⟩
              rw [← HL.out] at HC HTK
              have hLl : (ci L).length ≤ 1000000 := by rw [ci_len, HL.out]; simp; omega
              have HR1 := hide (HC.out.rw1d x)
              obtain ⟨d0, d1, df, hgl⟩ := HC.out.cells
              have d1' : (wr.alloc (.cells #[.int .i64 (x : Int)] 3)).cell? ⟨wo.heap.size, 1, none⟩ = some hv := by rw [((Below.refl wr.heap.size wr).alloc (Nat.le_refl _) _).cell hgl]; exact d1
              have HLEN : Hid ((ci L).length + ([(x : Int)] : List Int).length ≤ 17592186044416) := by show _ ≤ _; simp; omega
              clear hbw ho hca
              go_wp2
              go_region_law (refine step_appI (by rfl) _ _ (by rfl) wo.heap.size hv (.slice (some ⟨wr.heap.size, 0, none⟩) 1 1) (ci L) [(x : Int)] (by simp [Act.eval, Act.put]) (HR1.out.row _ (by rfl)) (by simp [Act.eval, Act.put]) (HR1.out.src _ (by rfl)) HLEN.out (HR1.out.siz _ (by rfl)) ?_; intro v6 wx ho6 hg6; obtain ⟨a6, n6, p6, hv6⟩ := ho6.shp; subst hv6; obtain ⟨t1, tf, hC6⟩ := HR1.out.app _ wx _ (by rfl) (by rfl) (by rfl) (by rfl) ho6 hg6; have HC6 := hide hC6; clear ho6 hg6 hC6)
              all_goals
                have HC7 : Hid (Cst wo wo.heap.size ((pw : Int) + qw) (.slice a6 n6 p6) (ph ++ qh.take (k + 1)) (wx.setCell ⟨wo.heap.size, 1, none⟩ (.slice a6 n6 p6))) := by rw [HTK.out]; exact HC6.out
                clear HC6 HR1 d0 d1 df d1' t1 tf HC
                go_wp2
                go_roundw
                case rel => exact ⟨k + 1, _, by omega, by go_num, HC7⟩
                case measure => simp [intOf]; omega
            · obtain rfl : k = qh.length := by omega
              have hkt' : ¬ (qh.length : Int) < (qh.length : Int) := by omega
              have HCE : Hid (Cst wo wo.heap.size ((pw : Int) + qw) hv (ph ++ qh) wr) := by
                have := HC.out
                rwa [List.take_of_length_le (Nat.le_refl _)] at this
              clear HC hbw
              obtain ⟨S, HSS⟩ : ∃ S, Hid (S = ph ++ qh) := ⟨_, hide rfl⟩
              rw [← HSS.out] at HCE
              obtain ⟨ah, ch, hhv⟩ := HCE.out.own.shape
              rw [ci_len] at hhv
              subst hhv
              obtain ⟨f0, f1, _, hgl⟩ := HCE.out.cells
              have HNr : Hid (ON wr w.heap.size (.slice a1 D.length p1) D) := HN.out.below HCE.out.bel (Nat.le_refl _)
              have HBr : Hid (Below w.heap.size w wr) := HBW.out.trans (HCE.out.bel.mono hBw)
              have HHO : Hid (OI wr 0 (.slice ah S.length ch) (ci S)) := HCE.out.own.base (Nat.zero_le _)
              have HPW : Hid (((pw : Int) + qw) = ((pw + qw : Nat) : Int)) := by show _ = _; omega
              have HAV : Hid (Abv w.heap.size (D ++ [((pw + qw, S), .slice ah S.length ch)])) := fun p hp k hk => by
                rcases List.mem_append.1 hp with hp | hp
                · exact HAP.out p hp k hk
                · rw [List.mem_singleton.1 hp] at hk
                  have := (HCE.out.own.lt k hk).1
                  omega
              have HEN : Hid (mro (D ++ [((pw + qw, S), .slice ah S.length ch)]) ++ npk ((mro M).drop (i + 2)) = npk (mro M)) := by
                show _ = _
                rw [← HEQ.out, HST.out, HSS.out]
                simp [mro]
              clear HCE HC0 HST HEQ HAP
              go_wp2_with (at_builtin; refine wpNode rfl _ _ rfl w.heap.size (.slice a1 D.length p1) D ((pw + qw, S), .slice ah S.length ch) _ HPW.out HHO.out rfl HNr.out _ rfl (by omega) (by omega) ?_)
              intro v8 w8 ho8 hg8
              have HN8 := hide ho8
              have HB8 := hide (grow_node HBr.out (Nat.le_refl _) HNr.out hg8)
              clear ho8 hg8
              go_wp2
              go_roundw
              case rel => exact ⟨i + 2, _, by omega, by go_num, by simp; omega, HN8, HB8, HEN, HAV⟩
              case measure => simp [intOf]; omega
    · have hlt' : ¬ (i : Int) + 1 < (n : Int) := by omega
      have HF : Hid (mro D = npk (mro M)) := by
        have e := HEQ.out
        rw [npk_end (by rw [mro_len, ← HNN.out]; omega), List.append_nil] at e
        exact e
      clear HEQ
      go_wp2
      go_ret
      exact ⟨_, rfl, D, HN.out, HF.out, HAP.out, HBW.out⟩
end Go.Proofs.YtkmefeihkmbngaaDoor

