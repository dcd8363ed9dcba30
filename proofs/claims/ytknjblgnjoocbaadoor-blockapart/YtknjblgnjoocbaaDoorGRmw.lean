import Derived.Test.YtknjblgnjoocbaaDoorGRmt
namespace Go.Proofs.YtknjblgnjoocbaaDoor
open Go.RowKit Go.Maps
set_option maxRecDepth 20000
set_option linter.unusedVariables false
set_option linter.unusedSimpArgs false

theorem wpList_mkM {w : World} {ops : Array Oper} {rest : List Oper} {o : Oper} {a : Act} {Q : Exit → Act → World → Prop} (hg : o.guard = none) (l c : Operand) (hop : o.op = Op.makeSlice 22 l c)
    (kl kc : IntKind) (n : Nat) (N : Int) (hl : a.eval l = .int kl N) (hc : a.eval c = .int kc N) (hN : N = (n : Int)) (b2 : n ≤ 5864062014805)
    (hK : ∀ w' cur, w'.heap[w.heap.size]? = some (.cells cur 34 (0, 0)) → cur.size = n * 3 → Below w.heap.size w w' → wpList Tryd.prog ops Q rest (a.put o.dst (.slice (some ⟨w.heap.size, 0, none⟩) n n)) w') :
    wpList Tryd.prog ops Q (o :: rest) a w := by
  subst hN
  exact wpList_mkK hg l c hop kl kc n hl hc b2 hK

def m7 : Tk := (77, 77, 0)

theorem three_of {α : Type} {l : List α} (h : 3 ≤ l.length) : ∃ x y z r, l = x :: y :: z :: r := by
  match l, h with
  | x :: y :: z :: r, _ => exact ⟨x, y, z, r, rfl⟩

set_option maxHeartbeats 1000000 in
theorem roomy_any (v : Value) (R : List Tk) (w : World) (h : SK w v R) (hn : R.length ≤ 16777216) :
    Calls Tryd.prog 5 #[v] w fun e w' => e = .returned (.slice (some ⟨w.heap.size, 0, none⟩) R.length (R.length + 9)) ∧ TBr w' w.heap.size (R ++ List.replicate 9 m7) [] ∧ Below w.heap.size w w' := by
  have HV := hide h
  obtain ⟨a2, c2, rfl, hlc, hcm⟩ := h.open
  have hw1 : wrap64 ((R.length : Int) + 9) = (R.length : Int) + 9 := by unfold wrap64; omega
  clear h
  go_enter Tryd.func5, Tryd.ntmps5
  go_wp2_with (at_make; refine wpList_mkM rfl _ _ rfl _ _ (R.length + 9) _ rfl rfl (by first | rfl | omega) (by omega) ?_)
  intro w1 cur hg1 hc1 hb1
  have hV1 := HV.out.below hb1
  go_wp2_with (refine wpList_copyL rfl _ _ rfl w.heap.size (R.length + 9) (R.length + 9) (.slice a2 R.length c2) R rfl (by omega) rfl hV1 cur hg1 hc1 ?_)
  intro w2 rst0 hT2 hr0 ho2 hs2 q1 q2 q3
  have HB2 : Hid (Below w.heap.size w w2) := ⟨q1.trans hb1.os, q2.trans hb1.tape, q3.trans hb1.output, by rw [hs2]; exact hb1.size, fun k hk => (ho2 k (by omega)).trans (hb1.block k hk)⟩
  have HT2 := hide hT2
  have HR0 : Hid (rst0.length = 27) := by show _ = _; omega
  clear hg1 hc1 hb1 hV1 ho2 hs2 q1 q2 q3 hT2 hr0
  go_wp2
  go_loopw [4] (fun i wr => ∃ k : Nat, k ≤ 9 ∧ i = .int .i64 ((R.length + k : Nat) : Int) ∧ Hid (∃ rst, TBr wr w.heap.size (R ++ List.replicate k m7) rst ∧ rst.length = (9 - k) * 3) ∧ Hid (Below w.heap.size w wr)) (fun i _ => R.length + 9 - (intOf i).toNat)
  case atStart => exact ⟨0, by omega, rfl, ⟨rst0, by simpa using HT2.out, HR0.out⟩, HB2⟩
  case round =>
    obtain ⟨k, hk, rfl, HT, HB⟩ := hrel
    by_cases hlt : k < 9
    · obtain ⟨rst, t1, t2⟩ := HT.out
      obtain ⟨x, y, z, r, rfl⟩ := three_of (l := rst) (by omega)
      have hL : (R ++ List.replicate k m7).length = R.length + k := by simp
      have HP := hide (t1.put m7)
      have HS : Hid (R ++ List.replicate k m7 ++ [m7] = R ++ List.replicate (k + 1) m7) := by show _ = _; rw [List.replicate_succ']; simp
      rw [hL, HS.out] at HP
      obtain ⟨⟨u0, e0⟩, f0⟩ := t1.there (j := (R.length + k) * 3) (by rw [hL]; simp)
      obtain ⟨⟨u1, e1⟩, f1⟩ := t1.there (j := (R.length + k) * 3 + 1) (by rw [hL]; simp)
      obtain ⟨⟨u2, e2⟩, f2⟩ := t1.there (j := (R.length + k) * 3 + 2) (by rw [hL]; simp)
      have HRL : Hid (r.length = (9 - (k + 1)) * 3) := by show _ = _; simp at t2; omega
      obtain ⟨i, hi⟩ : ∃ i, R.length + k = i := ⟨_, rfl⟩
      have hi2 : i < R.length + 9 := by omega
      rw [hi] at HP e0 e1 e2 f0 f1 f2 ⊢
      have HII := hide hi
      have hlt' : (i : Int) < (R.length : Int) + 9 := by omega
      have hlt2 : (i : Int) < ((R.length + 9 : Nat) : Int) := by omega
      have HB9 : Hid (Below w.heap.size w (((wr.setCell ⟨w.heap.size, i * 3, none⟩ (.int .i64 77)).setCell ⟨w.heap.size, i * 3 + 1, none⟩ (.int .i64 77)).setCell ⟨w.heap.size, i * 3 + 2, none⟩ (.int .u8 0))) :=
        ((HB.out.setCell (p := ⟨w.heap.size, i * 3, none⟩) (Nat.le_refl _) _).setCell (p := ⟨w.heap.size, i * 3 + 1, none⟩) (Nat.le_refl _) _).setCell (p := ⟨w.heap.size, i * 3 + 2, none⟩) (Nat.le_refl _) _
      clear t1 t2 HT HB hL hi
      go_wp2
      go_roundw
      case rel => exact ⟨k + 1, by omega, by have := HII.out; go_num, ⟨r, HP.out, HRL.out⟩, HB9⟩
      case measure => simp [intOf]; omega
    · obtain rfl : k = 9 := by omega
      obtain ⟨rst, t1, t2⟩ := HT.out
      obtain rfl : rst = [] := List.eq_nil_of_length_eq_zero (by omega)
      have HF := hide t1
      have hlt' : ¬ ((R.length + 9 : Nat) : Int) < (R.length : Int) + 9 := by omega
      clear t1 t2 HT
      go_wp2
      go_ret
      exact ⟨rfl, HF.out, HB.out⟩

set_option maxHeartbeats 1000000 in
theorem spared_any (g : Nat) (R : List Tk) (w : World) (h : TBr w g (R ++ List.replicate 9 m7) []) (hn : R.length ≤ 16777216) :
    Calls Tryd.prog 8 #[.slice (some ⟨g, 0, none⟩) R.length (R.length + 9)] w fun e w' => e = .returned (.bool true) ∧ w' = w := by
  have HT := hide h
  have hw1 : wrap64 ((R.length : Int) + 9) = (R.length : Int) + 9 := by unfold wrap64; omega
  have HA : Hid (∀ k, k < 9 → (R ++ List.replicate 9 m7).getD (R.length + k) tk0 = m7) := fun k hk => by
    rw [List.getD_eq_getElem?_getD, List.getElem?_append_right (by omega), show R.length + k - R.length = k by omega, List.getElem?_replicate, if_pos hk]
    rfl
  clear h
  go_enter Tryd.func8, Tryd.ntmps8
  go_wp2
  go_loopw [4] (fun i wr => ∃ k : Nat, k ≤ 9 ∧ i = .int .i64 ((R.length + k : Nat) : Int) ∧ wr = w) (fun i _ => R.length + 9 - (intOf i).toNat)
  case atStart => exact ⟨0, by omega, rfl, rfl⟩
  case round =>
    obtain ⟨k, hk, rfl, rfl⟩ := hrel
    by_cases hlt : k < 9
    · obtain ⟨c0, c1, c2⟩ := HT.out.at (i := R.length + k) (by simp; omega)
      rw [HA.out k hlt] at c0 c1 c2
      obtain ⟨i, hi⟩ : ∃ i, R.length + k = i := ⟨_, rfl⟩
      have hi2 : i < R.length + 9 := by omega
      rw [hi] at c0 c1 c2 ⊢
      have HII := hide hi
      have hlt' : (i : Int) < (R.length : Int) + 9 := by omega
      have hlt2 : (i : Int) < ((R.length + 9 : Nat) : Int) := by omega
      have hnq := fun W => tk_neq W 77 77 0 77 77 0
      have hgd := tok_guard
      have hbb : (!((77 : Int) == 77 && ((77 : Int) == 77 && (0 : Int) == 0))) = false := by decide
      rw [hbb] at hnq
      have c0' : wr.cell? ⟨g, i * 3, none⟩ = some (.int .i64 77) := c0
      have c1' : wr.cell? ⟨g, i * 3 + 1, none⟩ = some (.int .i64 77) := c1
      have c2' : wr.cell? ⟨g, i * 3 + 2, none⟩ = some (.int .u8 0) := c2
      clear c0 c1 c2 hi
      go_wp2
      go_roundw
      case rel => exact ⟨k + 1, by omega, by have := HII.out; go_num, by trivial⟩
      case measure => simp [intOf]; omega
    · obtain rfl : k = 9 := by omega
      have hlt' : ¬ ((R.length + 9 : Nat) : Int) < (R.length : Int) + 9 := by omega
      go_wp2
      go_ret
      exact ⟨rfl, rfl⟩
end Go.Proofs.YtknjblgnjoocbaaDoor

