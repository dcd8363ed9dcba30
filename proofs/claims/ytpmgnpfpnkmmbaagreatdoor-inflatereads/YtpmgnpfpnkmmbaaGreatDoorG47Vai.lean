import Derived.Test.YtpmgnpfpnkmmbaaGreatDoorG46Vag
import Derived.Deep.DeepCutAuto
namespace Go.Proofs.YtpmgnpfpnkmmbaaGreatDoor
open Go.RowKit Go.Maps
set_option maxRecDepth 20000
set_option linter.unusedVariables false

abbrev pdO (k : Int) (f : Bool) (a b c d : Int) : Obj := .cells #[.int .i64 k, .bool f, .int .i64 a, .int .i64 b, .int .i64 c, .int .i64 d] 54

theorem pd_cells {w : World} {g : Nat} {k : Int} {f : Bool} {a b c d : Int} (h : w.heap[g]? = some (pdO k f a b c d)) :
    w.cell? ⟨g, 0, none⟩ = some (.int .i64 k) ∧ w.cell? ⟨g, 1, none⟩ = some (.bool f) ∧ w.cell? ⟨g, 2, none⟩ = some (.int .i64 a) ∧ w.cell? ⟨g, 3, none⟩ = some (.int .i64 b) ∧ w.cell? ⟨g, 4, none⟩ = some (.int .i64 c) ∧ w.cell? ⟨g, 5, none⟩ = some (.int .i64 d) ∧ ∀ i, w.frozen? ⟨g, i, none⟩ = false := by
  refine ⟨?_, ?_, ?_, ?_, ?_, ?_, fun i => ?_⟩
  all_goals first | (unfold World.cell?; rw [h]; rfl) | (unfold World.frozen?; rw [h]; rfl)

theorem infoPc8 : (Tryz.prog.info? 54).map (fun i => (i.zero, i.size, i.bytes)) = some (some (.agg #[.int .i64 0, .bool false, .int .i64 0, .int .i64 0, .int .i64 0, .int .i64 0]), 6, 48) := by kernel_rfl

/-- append of a block, as a step of a region that draws its order. -/
theorem stepRowp {w : World} {ops : Array Oper} {o : Oper} {a : Act} {K : Act → World → Prop} {Q : Exit → Act → World → Prop} {E : Prop} (hgd : o.guard = none) (s x : Operand)
    (ho : o.op = .call { callee := .builtin .append, args := #[s, x], argTypes := #[24, 24] })
    (base : Nat) (v : Value) (R : List (Array Value)) (r : Array Value) (B c n m : Nat) (fr : Nat × Nat) (hs : a.eval s = v) (hown : ORp 54 6 w base v R)
    (hx : a.eval x = .slice (some ⟨B, 0, none⟩) 1 c) (hB : w.heap[B]? = some (.cells r 54 fr)) (hr : r.size = 6) (h1 : ∀ u ∈ r.toList, u.oneCell' = true)
    (hlen : R.length ≤ 268435456) (hm : m = R.length + 1) (hbase : base ≤ w.heap.size)
    (h : ∀ g cap w', ORp 54 6 w' base (.slice (some ⟨g, 0, none⟩) m cap) (R ++ [r]) → w.grownBy w' v.ownBlock → (v.ownBlock = some g ∨ g = w.heap.size) → K (a.put o.dst (.slice (some ⟨g, 0, none⟩) m cap)) w') :
    if Region.wanted o (yielded ops a.tmps) = true then Oper.wp Tryz.prog o a w K Q else E := by
  subst hm
  obtain ⟨i0, hi0, hz0, hz1, hz2⟩ := info_parts infoPc8
  have hw : Region.wanted o (yielded ops a.tmps) = true := by simp [Region.wanted, hgd]
  rw [if_pos hw]
  refine wp_append_lies _ s x 24 ho base 54 i0 _ 6 48 Tryz.underlying24 hi0 hz0 hz1 hz2 rfl (by omega) v R.length (flr R) hs hown.2 ⟨B, 0, none⟩ 1 c r.toList hx (by rw [Array.length_toList, hr, Nat.one_mul]) (World.news_of_block hB) h1 (by omega) (by unfold maxLen; omega) (by omega) hbase _ rfl fun g cap w' g1 g2 g4 _ => h g cap w' ⟨?_, ?_⟩ g2 g4
  · intro q hq
    rcases List.mem_append.1 hq with hq | hq
    · exact hown.1 q hq
    · rw [List.mem_singleton.1 hq]; exact hr
  · rw [List.length_append, flr_app]
    simpa [flr] using g1

theorem at_4 {α : Type} (x y z u a : α) (zr : List α) : ∀ ys : List α, (x :: y :: z :: u :: (ys ++ a :: zr))[ys.length + 4]? = some a := fun ys => by simp
theorem set_4 {α : Type} (x y z u a b : α) (zr ys : List α) : (x :: y :: z :: u :: (ys ++ a :: zr)).set (ys.length + 4) b = x :: y :: z :: u :: (ys ++ b :: zr) := by simp

variable {W w : World} {g r : Nat} {row : List Int} {p L : Nat} {out : List Int} {wh : List (Array Value)} {us : Int} {dn : Bool} {er : Int} {ys zs : List ((Nat → Nat) × Thing)}

theorem SX.push (h : SX W w g r row p L out wh us dn er ys) (o : Obj) : ∃ K, SX W (w.alloc o) g r row p L out wh us dn er (ys ++ [(K, tb w.heap.size o)]) := by
  obtain ⟨Kt, Kr, Ko, Kw, a, c, aw, cw, H, k⟩ := h
  obtain ⟨K, h⟩ := H.box1 o
  exact ⟨K, Kt, Kr, Ko, Kw, a, c, aw, cw, h, k⟩

theorem SX.box {K : Nat → Nat} {b : Nat} {o : Obj} (h : SX W w g r row p L out wh us dn er (ys ++ (K, tb b o) :: zs)) : w.heap[b]? = some o := by
  obtain ⟨Kt, Kr, Ko, Kw, a, c, aw, cw, H, k⟩ := h
  exact H.tbat _ (at_4 _ _ _ _ _ _ _)

/-- A box beside the state is written. -/
theorem SX.bput {K : Nat → Nat} {b : Nat} {cur : Array Value} {t : TypeId} (h : SX W w g r row p L out wh us dn er (ys ++ (K, tb b (.cells cur t (0, 0))) :: zs)) (k : Nat) (u : Value) : SX W (w.setCell ⟨b, k, none⟩ u) g r row p L out wh us dn er (ys ++ (K, tb b (.cells (cur.setIfInBounds k u) t (0, 0))) :: zs) := by
  obtain ⟨Kt, Kr, Ko, Kw, a, c, aw, cw, H, hk⟩ := h
  have h := H.bput _ (at_4 _ _ _ _ _ _ _) k u
  rw [set_4] at h
  exact ⟨Kt, Kr, Ko, Kw, a, c, aw, cw, h, hk⟩

theorem SX.done (h : SX W w g r row p L out wh us dn er ys) (b : Bool) : SX W (w.setCell ⟨g, 5, none⟩ (.bool b)) g r row p L out wh us b er ys := by
  obtain ⟨Kt, Kr, Ko, Kw, a, c, aw, cw, H, k⟩ := h
  exact ⟨Kt, Kr, Ko, Kw, a, c, aw, cw, H.bput 0 rfl 5 (.bool b), k⟩

theorem SX.err (h : SX W w g r row p L out wh us dn er ys) (e : Int) : SX W (w.setCell ⟨g, 6, none⟩ (.int .i64 e)) g r row p L out wh us dn e ys := by
  obtain ⟨Kt, Kr, Ko, Kw, a, c, aw, cw, H, k⟩ := h
  exact ⟨Kt, Kr, Ko, Kw, a, c, aw, cw, H.bput 0 rfl 6 (.int .i64 e), k⟩

theorem SX.p1 {K : Nat → Nat} {b : Nat} {k : Int} {f : Bool} {x y u v : Int} (h : SX W w g r row p L out wh us dn er (ys ++ (K, tb b (pdO k f x y u v)) :: zs)) (f' : Bool) : SX W (w.setCell ⟨b, 1, none⟩ (.bool f')) g r row p L out wh us dn er (ys ++ (K, tb b (pdO k f' x y u v)) :: zs) := h.bput 1 (.bool f')
theorem SX.p0 {K : Nat → Nat} {b : Nat} {k : Int} {f : Bool} {x y u v : Int} (h : SX W w g r row p L out wh us dn er (ys ++ (K, tb b (pdO k f x y u v)) :: zs)) (k' : Int) : SX W (w.setCell ⟨b, 0, none⟩ (.int .i64 k')) g r row p L out wh us dn er (ys ++ (K, tb b (pdO k' f x y u v)) :: zs) := h.bput 0 (.int .i64 k')
theorem SX.p3 {K : Nat → Nat} {b : Nat} {k : Int} {f : Bool} {x y u v : Int} (h : SX W w g r row p L out wh us dn er (ys ++ (K, tb b (pdO k f x y u v)) :: zs)) (y' : Int) : SX W (w.setCell ⟨b, 3, none⟩ (.int .i64 y')) g r row p L out wh us dn er (ys ++ (K, tb b (pdO k f x y' u v)) :: zs) := h.bput 3 (.int .i64 y')
theorem SX.p5 {K : Nat → Nat} {b : Nat} {k : Int} {f : Bool} {x y u v : Int} (h : SX W w g r row p L out wh us dn er (ys ++ (K, tb b (pdO k f x y u v)) :: zs)) (v' : Int) : SX W (w.setCell ⟨b, 5, none⟩ (.int .i64 v')) g r row p L out wh us dn er (ys ++ (K, tb b (pdO k f x y u v')) :: zs) := h.bput 5 (.int .i64 v')

/-- A block more in the list of blocks. -/
theorem SX.whole (h : SX W w g r row p L out wh us dn er ys) : ∃ a c, w.cell? ⟨g, 3, none⟩ = some (.slice a wh.length c) ∧ ORp 54 6 w 0 (.slice a wh.length c) wh ∧ wh.length ≤ 268435456 ∧
    ∀ (w1 w6 : World) (b n cap : Nat) (wh' : List (Array Value)), Below w.heap.size w w1 → ORp 54 6 w6 0 (.slice (some ⟨b, 0, none⟩) n cap) wh' → n = wh'.length → w1.grownBy w6 (Value.slice a wh.length c).ownBlock → ((Value.slice a wh.length c).ownBlock = some b ∨ b = w1.heap.size) → w6.cell? ⟨g, 3, none⟩ = some (.slice a wh.length c) ∧ (∀ k, w6.frozen? ⟨g, k, none⟩ = false) ∧ (wh'.length ≤ 268435456 → SX W (w6.setCell ⟨g, 3, none⟩ (.slice (some ⟨b, 0, none⟩) n cap)) g r row p L out wh' us dn er ys) := by
  obtain ⟨Kt, Kr, Ko, Kw, ao, co, a, c, HH, hoL, hL, hwp⟩ := h
  have h0 : (tb g (stO r L ao out.length co a wh.length c us dn er)).P w Kt := HH.rep 0 _ rfl
  have h3 : (tor (.slice a wh.length c) wh).P w Kw := HH.rep 3 _ rfl
  refine ⟨a, c, (stO_cells h0.1).2.2.2.1, h3.1, hwp, fun w1 w6 b n cap wh' hb ho hn hg hat => ?_⟩
  subst hn
  have hgs := h0.2.2 g h0.2.1
  have e1 : w6.heap[g]? = w1.heap[g]? := hg.block g (Nat.lt_of_lt_of_le hgs hb.size) (fun e => by
    have := HH.sep 0 3 _ _ rfl rfl (by decide) g h0.2.1
    exact h3.2.1 g e.symm this)
  have e2 : w6.heap[g]? = some (stO r L ao out.length co a wh.length c us dn er) := e1.trans ((hb.block g hgs).trans h0.1)
  refine ⟨(stO_cells e2).2.2.2.1, (stO_cells e2).2.2.2.2.2.2.2, fun hL' => ?_⟩
  have H1 := HH.below hb
  have hp : (tor (.slice a wh.length c) wh).P w1 Kw := H1.rep 3 _ rfl
  have h4 := H1.op 3 rfl (x' := tor (.slice (some ⟨b, 0, none⟩) wh'.length cap) wh') (K' := fun k => if k < w1.heap.size then Kw k else if b = k then 1 else 0) (w' := w6) ⟨ho, fun k hk => ?_, fun k hk => ?_⟩ ⟨hg.os, hg.tape, hg.output, hg.size, fun k hk h0 => hg.block k hk (fun e => hp.2.1 k e.symm h0), fun k hk => by simp [hk]⟩
  · simp only [List.set_cons_succ, List.set_cons_zero] at h4
    exact ⟨Kt, Kr, Ko, _, ao, co, some ⟨b, 0, none⟩, cap, h4.bput 0 rfl 3 (.slice (some ⟨b, 0, none⟩) wh'.length cap), hoL, hL, hL'⟩
  · have hk' : b = k := by injection hk
    subst hk'
    by_cases c0 : b < w1.heap.size
    · simp only [c0, if_true]
      rcases hat with e | e
      · exact hp.2.1 b e
      · omega
    · simp [c0]
  · by_cases c0 : k < w1.heap.size
    · exact Nat.lt_of_lt_of_le c0 hg.size
    · simp only [c0, if_false] at hk
      by_cases e : b = k
      · subst e; exact (ho.lt b rfl).2
      · simp [e] at hk
end Go.Proofs.YtpmgnpfpnkmmbaaGreatDoor

namespace Go.Proofs.YtpmgnpfpnkmmbaaGreatDoor
open Go.RowKit Go.Maps
set_option maxRecDepth 20000
set_option linter.unusedVariables false

theorem ahead3 {row : List Int} {p : Nat} (hb : Bit row) (h : p + 3 ≤ row.length) : ahead row p 3 % 2 = ahead row p 1 ∧ ahead row p 3 / 2 = ahead row (p + 1) 2 := by
  have e : row.drop p = row[p] :: row.drop (p + 1) := List.drop_eq_getElem_cons (by omega)
  have h1 : ahead row p 3 = row[p] + 2 * ahead row (p + 1) 2 := by unfold ahead; rw [e]; rfl
  have h2 : ahead row p 1 = row[p] := by unfold ahead; rw [e]; show row[p] + 2 * 0 = row[p]; omega
  have h3 := hb row[p] (List.getElem_mem _)
  omega

variable {W w : World} {g r : Nat} {row : List Int} {p L : Nat} {out : List Int} {wh : List (Array Value)} {us : Int} {dn : Bool} {er : Int} {ys : List ((Nat → Nat) × Thing)}

theorem SX.isi (h : SX W w g r row p L out wh us dn er ys) (i : Nat) {K : Nat → Nat} {v : Value} {l : List Int} (hi : ys[i]? = some (K, ti v l)) : SI w v l := by
  obtain ⟨Kt, Kr, Ko, Kw, a, c, aw, cw, H, k⟩ := h
  exact H.isi (i + 4) (by simpa using hi)

theorem vflit (h : SX W w g r row p L out wh us dn er ys) : Calls Tryz.prog 58 #[] w fun e w' => ∃ a c K, e = .returned (.slice a FL.length c) ∧ SX W w' g r row p L out wh us dn er (ys ++ [(K, ti (.slice a FL.length c) FL)]) := by
  obtain ⟨Kt, Kr, Ko, Kw, a, c, aw, cw, H, k⟩ := h
  refine (hxflit H fl_is).mono ?_
  rintro e w1 ⟨a1, c1, K, rfl, h1⟩
  exact ⟨a1, c1, K, rfl, Kt, Kr, Ko, Kw, a, c, aw, cw, h1, k⟩

theorem vfdist (h : SX W w g r row p L out wh us dn er ys) : Calls Tryz.prog 59 #[] w fun e w' => ∃ a c K, e = .returned (.slice a FD.length c) ∧ SX W w' g r row p L out wh us dn er (ys ++ [(K, ti (.slice a FD.length c) FD)]) := by
  obtain ⟨Kt, Kr, Ko, Kw, a, c, aw, cw, H, k⟩ := h
  refine (hxfdist H (D := FD) rfl).mono ?_
  rintro e w1 ⟨a1, c1, K, rfl, h1⟩
  exact ⟨a1, c1, K, rfl, Kt, Kr, Ko, Kw, a, c, aw, cw, h1, k⟩
end Go.Proofs.YtpmgnpfpnkmmbaaGreatDoor

