import Derived.Test.YtmjdpfigkojolaaGreatDoorG11Ifp
import Derived.Deep.DeepCutAuto
namespace Go.Proofs.YtmjdpfigkojolaaGreatDoor
open Go.RowKit Go.Maps
set_option maxRecDepth 20000
set_option linter.unusedVariables false

abbrev pcO (k : Int) (f : Bool) (a b c d : Int) : Obj := .cells #[.int .i64 k, .bool f, .int .i64 a, .int .i64 b, .int .i64 c, .int .i64 d] 36

theorem pc_cells {w : World} {g : Nat} {k : Int} {f : Bool} {a b c d : Int} (h : w.heap[g]? = some (pcO k f a b c d)) :
    w.cell? ⟨g, 0, none⟩ = some (.int .i64 k) ∧ w.cell? ⟨g, 1, none⟩ = some (.bool f) ∧ w.cell? ⟨g, 2, none⟩ = some (.int .i64 a) ∧ w.cell? ⟨g, 3, none⟩ = some (.int .i64 b) ∧ w.cell? ⟨g, 4, none⟩ = some (.int .i64 c) ∧ w.cell? ⟨g, 5, none⟩ = some (.int .i64 d) ∧ ∀ i, w.frozen? ⟨g, i, none⟩ = false := by
  refine ⟨?_, ?_, ?_, ?_, ?_, ?_, fun i => ?_⟩
  all_goals first | (unfold World.cell?; rw [h]; rfl) | (unfold World.frozen?; rw [h]; rfl)

theorem td_ne {w : World} {K : Nat → Nat} {b gl : Nat} {cur : Array Value} {t : TypeId} {l : List Int} (h : (tb b (.cells cur t (0, 0))).P w K) (ht : t ≠ 163) : tb b (.cells cur t (0, 0)) ≠ td gl l := by
  intro e
  have hd : Dp w K gl l := by
    have : (td gl l).P w K := by rw [← e]; exact h
    exact this
  obtain ⟨vl, vw, vs, sy, a1, _⟩ := hd.d
  have hbg : b ≠ gl := fun e => by
    have h1 := h.1
    rw [e, a1] at h1
    injection h1 with h1
    injection h1 with _ h2
    exact ht h2.symm
  have hgs : gl < w.heap.size := by
    rcases Nat.lt_or_ge gl w.heap.size with q | q
    · exact q
    · rw [Array.getElem?_eq_none q] at a1; cases a1
  have h3 : (tb b (.cells cur t (0, 0))).P { w with heap := w.heap.setIfInBounds gl (.cells #[] t (0, 0)) } K :=
    ⟨by show (w.heap.setIfInBounds gl _)[b]? = _; rw [Array.getElem?_setIfInBounds_ne (fun e => hbg e.symm)]; exact h.1, h.2.1, fun k hk => by show k < (w.heap.setIfInBounds gl _).size; rw [Array.size_setIfInBounds]; exact h.2.2 k hk⟩
  rw [e] at h3
  have hd2 : Dp { w with heap := w.heap.setIfInBounds gl (.cells #[] t (0, 0)) } K gl l := h3
  obtain ⟨vl', vw', vs', sy', a1', _⟩ := hd2.d
  have a2 : (w.heap.setIfInBounds gl (.cells #[] t (0, 0)))[gl]? = _ := a1'
  rw [Array.getElem?_setIfInBounds_self_of_lt hgs] at a2
  injection a2 with a2
  injection a2 with _ h2
  exact ht h2

theorem get_over {α : Type} {ys zs : List α} {a b c : α} {i : Nat} (h : (ys ++ a :: zs)[i]? = some c) (hne : a ≠ c) : (ys ++ b :: zs)[i]? = some c := by
  have e : ys ++ b :: zs = (ys ++ a :: zs).set ys.length b := by simp
  have hi : ys.length ≠ i := fun q => by
    subst q
    simp at h
    exact hne h
  rw [e, List.getElem?_set_ne hi]
  exact h

theorem TX.bput {W w : World} {g r : Nat} {row : List Int} {p L : Nat} {out : List Int} {dn : Bool} {ys zs : List ((Nat → Nat) × Thing)} {K : Nat → Nat} {b : Nat} {cur : Array Value} {t : TypeId} (H : TX W w g r row p L out dn (ys ++ (K, tb b (.cells cur t (0, 0))) :: zs)) (ht : t ≠ 163) (k : Nat) (u : Value) :
    TX W (w.setCell ⟨b, k, none⟩ u) g r row p L out dn (ys ++ (K, tb b (.cells (cur.setIfInBounds k u) t (0, 0))) :: zs) := by
  obtain ⟨Kt, Kr, Ko, a, c, fl, fd, HH, hf, hk⟩ := H
  have hp : (tb b (.cells cur t (0, 0))).P w K := HH.rep _ _ (at_3 _ _ _ _ _ _)
  have h := HH.bput _ (at_3 _ _ _ _ _ _) k u
  rw [set_3] at h
  refine ⟨Kt, Kr, Ko, a, c, fl, fd, h, ?_, hk⟩
  rcases hf with hf | ⟨gl, gd, i, j, Kl, Kd, h1, h2, h3, h4⟩
  · exact .inl hf
  · refine .inr ⟨gl, gd, i, j, Kl, Kd, h1, h2, get_over h3 (fun e => ?_), get_over h4 (fun e => ?_)⟩
    · injection e with _ e; exact td_ne hp ht e
    · injection e with _ e; exact td_ne hp ht e

theorem TX.done {W w : World} {g r : Nat} {row : List Int} {p L : Nat} {out : List Int} {dn : Bool} {ys : List ((Nat → Nat) × Thing)} (H : TX W w g r row p L out dn ys) (b : Bool) : (∀ k, w.frozen? ⟨g, k, none⟩ = false) ∧ w.cell? ⟨g, 3, none⟩ = some (.bool dn) ∧ TX W (w.setCell ⟨g, 3, none⟩ (.bool b)) g r row p L out b ys := by
  obtain ⟨Kt, Kr, Ko, a, c, fl, fd, HH, hf, hk⟩ := H
  exact ⟨txO_free (HH.tbat 0 rfl), (txO_cells (HH.tbat 0 rfl)).2.2.2.1, Kt, Kr, Ko, a, c, fl, fd, HH.bput 0 rfl 3 (.bool b), hf, hk⟩

theorem TX.cells {W w : World} {g r : Nat} {row : List Int} {p L : Nat} {out : List Int} {dn : Bool} {ys : List ((Nat → Nat) × Thing)} (H : TX W w g r row p L out dn ys) : ∃ a c, w.cell? ⟨g, 0, none⟩ = some (.pointer (some ⟨r, 0, none⟩)) ∧ w.cell? ⟨g, 1, none⟩ = some (.slice a out.length c) ∧ w.cell? ⟨g, 3, none⟩ = some (.bool dn) ∧ OB w 0 (.slice a out.length c) out ∧ out.length ≤ L ∧ L ≤ 16777216 ∧ ∀ n, Calls Tryz.prog 39 #[.pointer (some ⟨r, 0, none⟩)] (w.drewN n) fun e w' => e = .returned (.int .i64 p) ∧ w' = w.drewN n := by
  obtain ⟨Kt, Kr, Ko, a, c, fl, fd, HH, hf, hk⟩ := H
  obtain ⟨c0, c1, c2, c3, c4, c5⟩ := txO_cells (HH.tbat 0 rfl)
  have hR : Rp w Kr r row p := HH.rep 1 _ rfl
  exact ⟨a, c, c0, c1, c3, (HH.rep 2 _ rfl).1, hk.1, hk.2, fun n => rdat_any (hR.drewN n)⟩

theorem TX.pc {W w : World} {g r : Nat} {row : List Int} {p L : Nat} {out : List Int} {dn : Bool} {ys zs : List ((Nat → Nat) × Thing)} {K : Nat → Nat} {b : Nat} {k : Int} {f : Bool} {x y u v : Int} (H : TX W w g r row p L out dn (ys ++ (K, tb b (pcO k f x y u v)) :: zs)) (f' : Bool) : TX W (w.setCell ⟨b, 1, none⟩ (.bool f')) g r row p L out dn (ys ++ (K, tb b (pcO k f' x y u v)) :: zs) := H.bput (by decide) 1 (.bool f')
theorem TX.pk {W w : World} {g r : Nat} {row : List Int} {p L : Nat} {out : List Int} {dn : Bool} {ys zs : List ((Nat → Nat) × Thing)} {K : Nat → Nat} {b : Nat} {k : Int} {f : Bool} {x y u v : Int} (H : TX W w g r row p L out dn (ys ++ (K, tb b (pcO k f x y u v)) :: zs)) (k' : Int) : TX W (w.setCell ⟨b, 0, none⟩ (.int .i64 k')) g r row p L out dn (ys ++ (K, tb b (pcO k' f x y u v)) :: zs) := H.bput (by decide) 0 (.int .i64 k')
theorem TX.pe {W w : World} {g r : Nat} {row : List Int} {p L : Nat} {out : List Int} {dn : Bool} {ys zs : List ((Nat → Nat) × Thing)} {K : Nat → Nat} {b : Nat} {k : Int} {f : Bool} {x y u v : Int} (H : TX W w g r row p L out dn (ys ++ (K, tb b (pcO k f x y u v)) :: zs)) (y' v' : Int) : TX W ((w.setCell ⟨b, 3, none⟩ (.int .i64 y')).setCell ⟨b, 5, none⟩ (.int .i64 v')) g r row p L out dn (ys ++ (K, tb b (pcO k f x y' u v')) :: zs) := by
  have h1 : TX W (w.setCell ⟨b, 3, none⟩ (.int .i64 y')) g r row p L out dn (ys ++ (K, tb b (pcO k f x y' u v)) :: zs) := H.bput (by decide) 3 (.int .i64 y')
  exact h1.bput (by decide) 5 (.int .i64 v')
theorem TX.p6 {W w : World} {g r : Nat} {row : List Int} {p L : Nat} {out : List Int} {dn : Bool} {ys zs : List ((Nat → Nat) × Thing)} {K : Nat → Nat} {b : Nat} {k : Int} {f : Bool} {x y u v : Int} (H : TX W w g r row p L out dn (ys ++ (K, tb b (pcO k f x y u v)) :: zs)) (k' : Int) (f' : Bool) (x' y' u' v' : Int) : TX W ((((((w.setCell ⟨b, 0, none⟩ (.int .i64 k')).setCell ⟨b, 1, none⟩ (.bool f')).setCell ⟨b, 2, none⟩ (.int .i64 x')).setCell ⟨b, 3, none⟩ (.int .i64 y')).setCell ⟨b, 4, none⟩ (.int .i64 u')).setCell ⟨b, 5, none⟩ (.int .i64 v')) g r row p L out dn (ys ++ (K, tb b (pcO k' f' x' y' u' v')) :: zs) := by
  have h0 : TX W (w.setCell ⟨b, 0, none⟩ (.int .i64 k')) g r row p L out dn (ys ++ (K, tb b (pcO k' f x y u v)) :: zs) := H.bput (by decide) 0 (.int .i64 k')
  have h1 : TX W ((w.setCell ⟨b, 0, none⟩ (.int .i64 k')).setCell ⟨b, 1, none⟩ (.bool f')) g r row p L out dn (ys ++ (K, tb b (pcO k' f' x y u v)) :: zs) := h0.bput (by decide) 1 (.bool f')
  have h2 : TX W (((w.setCell ⟨b, 0, none⟩ (.int .i64 k')).setCell ⟨b, 1, none⟩ (.bool f')).setCell ⟨b, 2, none⟩ (.int .i64 x')) g r row p L out dn (ys ++ (K, tb b (pcO k' f' x' y u v)) :: zs) := h1.bput (by decide) 2 (.int .i64 x')
  have h3 : TX W ((((w.setCell ⟨b, 0, none⟩ (.int .i64 k')).setCell ⟨b, 1, none⟩ (.bool f')).setCell ⟨b, 2, none⟩ (.int .i64 x')).setCell ⟨b, 3, none⟩ (.int .i64 y')) g r row p L out dn (ys ++ (K, tb b (pcO k' f' x' y' u v)) :: zs) := h2.bput (by decide) 3 (.int .i64 y')
  have h4 : TX W (((((w.setCell ⟨b, 0, none⟩ (.int .i64 k')).setCell ⟨b, 1, none⟩ (.bool f')).setCell ⟨b, 2, none⟩ (.int .i64 x')).setCell ⟨b, 3, none⟩ (.int .i64 y')).setCell ⟨b, 4, none⟩ (.int .i64 u')) g r row p L out dn (ys ++ (K, tb b (pcO k' f' x' y' u' v)) :: zs) := h3.bput (by decide) 4 (.int .i64 u')
  exact h4.bput (by decide) 5 (.int .i64 v')

theorem TX.tail {W w : World} {g r : Nat} {row : List Int} {q L : Nat} {o : List Int} {dn : Bool} {ys zs : List ((Nat → Nat) × Thing)} {KR KP : Nat → Nat} {R P : Nat} {k : Int} {f : Bool} {x u : Int} (H : TX W w g r row q L o dn (ys ++ (KR, tb R (pcO 0 false 0 0 0 0)) :: (KP, tb P (pcO k f x 0 u 0)) :: zs)) (w5 : World) (hw5 : w5 = (((w.drew.setCell ⟨P, 3, none⟩ (.int .i64 q)).setCell ⟨P, 5, none⟩ (.int .i64 o.length)))) :
    (∃ z, w.drew.cell? ⟨P, 3, none⟩ = some z) ∧ (∃ z, (w.drew.setCell ⟨P, 3, none⟩ (.int .i64 q)).cell? ⟨P, 5, none⟩ = some z) ∧ w.drew.frozen? ⟨P, 3, none⟩ = false ∧ (w.drew.setCell ⟨P, 3, none⟩ (.int .i64 q)).frozen? ⟨P, 5, none⟩ = false ∧
    w5.cell? ⟨P, 1, none⟩ = some (.bool f) ∧ (∃ z, w5.cell? ⟨g, 3, none⟩ = some z) ∧ w5.frozen? ⟨g, 3, none⟩ = false ∧
    (∀ w6, w6 = w5.setCell ⟨g, 3, none⟩ (.bool f) →
      (w6.cell? ⟨P, 0, none⟩ = some (.int .i64 k) ∧ w6.cell? ⟨P, 1, none⟩ = some (.bool f) ∧ w6.cell? ⟨P, 2, none⟩ = some (.int .i64 x) ∧ w6.cell? ⟨P, 3, none⟩ = some (.int .i64 q) ∧ w6.cell? ⟨P, 4, none⟩ = some (.int .i64 u) ∧ w6.cell? ⟨P, 5, none⟩ = some (.int .i64 o.length)) ∧
      w6.heap[R]? = some (pcO 0 false 0 0 0 0) ∧
      TX W ((((((w6.setCell ⟨R, 0, none⟩ (.int .i64 k)).setCell ⟨R, 1, none⟩ (.bool f)).setCell ⟨R, 2, none⟩ (.int .i64 x)).setCell ⟨R, 3, none⟩ (.int .i64 q)).setCell ⟨R, 4, none⟩ (.int .i64 u)).setCell ⟨R, 5, none⟩ (.int .i64 o.length)) g r row q L o f (ys ++ (KR, tb R (pcO k f x q u o.length)) :: (KP, tb P (pcO k f x q u o.length)) :: zs)) := by
  have hd := H.below ((Below.refl _ _).drew)
  have hd1 : TX W w.drew g r row q L o dn ((ys ++ [(KR, tb R (pcO 0 false 0 0 0 0))]) ++ (KP, tb P (pcO k f x 0 u 0)) :: zs) := by simpa [List.append_assoc] using hd
  have hp := pc_cells hd1.box
  have h3 : TX W (w.drew.setCell ⟨P, 3, none⟩ (.int .i64 q)) g r row q L o dn ((ys ++ [(KR, tb R (pcO 0 false 0 0 0 0))]) ++ (KP, tb P (pcO k f x q u 0)) :: zs) := hd1.bput (by decide) 3 (.int .i64 q)
  have hp3 := pc_cells h3.box
  have h5 := hd1.pe q o.length
  rw [← hw5] at h5
  have hp5 := pc_cells h5.box
  obtain ⟨t1, t2, t3⟩ := h5.done f
  refine ⟨⟨_, hp.2.2.2.1⟩, ⟨_, hp3.2.2.2.2.2.1⟩, hp.2.2.2.2.2.2 3, hp3.2.2.2.2.2.2 5, hp5.2.1, ⟨_, t2⟩, t1 3, fun w6 hw6 => ?_⟩
  rw [← hw6] at t3
  have hp6 := pc_cells t3.box
  have t4 : TX W w6 g r row q L o f (ys ++ (KR, tb R (pcO 0 false 0 0 0 0)) :: ((KP, tb P (pcO k f x q u o.length)) :: zs)) := by simpa [List.append_assoc] using t3
  exact ⟨⟨hp6.1, hp6.2.1, hp6.2.2.1, hp6.2.2.2.1, hp6.2.2.2.2.1, hp6.2.2.2.2.2.1⟩, t4.box, t4.p6 k f x q u o.length⟩

theorem TX.box2 {W w : World} {g r : Nat} {row : List Int} {p L : Nat} {out : List Int} {dn : Bool} {ys zs : List ((Nat → Nat) × Thing)} {K : Nat → Nat} {x : (Nat → Nat) × Thing} {b : Nat} {o : Obj} (H : TX W w g r row p L out dn (ys ++ x :: (K, tb b o) :: zs)) : w.heap[b]? = some o := by
  have h : TX W w g r row p L out dn ((ys ++ [x]) ++ (K, tb b o) :: zs) := by simpa [List.append_assoc] using H
  exact h.box

set_option maxHeartbeats 16000000 in
theorem hblockG {W w : World} {g r : Nat} {row : List Int} {p L : Nat} {out : List Int} {dn : Bool} {ys : List ((Nat → Nat) × Thing)} (H : TX W w g r row p L out dn ys) (T : Tab W) (O : Odr W) :
    Calls Tryz.prog 25 #[.pointer (some ⟨g, 0, none⟩)] w fun e w' => ∃ E f k q o, Blk row L p out E f k q o ∧ ((E = 0 ∧ e = .returned (.agg #[.int .i64 k, .bool f, .int .i64 p, .int .i64 q, .int .i64 out.length, .int .i64 o.length]) ∧ ∃ zs, TX W w' g r row q L o f (ys ++ zs)) ∨ (E ≠ 0 ∧ Ofg W ys E e w')) := by
  obtain ⟨KR, HR⟩ := H.push (pcO 0 false 0 0 0 0)
  have HBT := hide H.rd.1
  have hrl := H.rd.2
  obtain ⟨a, c, c0, c1, c3, hob, hoL, hL, hat⟩ := HR.cells
  obtain ⟨N, HN⟩ : ∃ N : Nat, Hid (N = out.length) := ⟨_, rfl⟩
  rw [← HN.out] at c1
  have HT := hide T
  have HO := hide O
  have hsz : (w.alloc (pcO 0 false 0 0 0 0)).heap.size = w.heap.size + 1 := size_alloc' _ _
  obtain ⟨w1, HW1⟩ : ∃ w1, Hid (w.alloc (pcO 0 false 0 0 0 0) = w1) := ⟨_, rfl⟩
  rw [HW1.out] at HR c0 c1 hat hsz
  obtain ⟨KP, HP⟩ := HR.push (pcO 0 false p 0 N 0)
  rw [hsz] at HP
  have HTX := hide (HP.below ((Below.refl _ _).drew))
  obtain ⟨KZ, HZ⟩ := HR.push (pcO 0 false 0 0 0 0)
  have hgz : g < w1.heap.size := World.block_lt_of_cell? _ _ c0
  have e0 : (w1.alloc (.cells #[.int .i64 0, .bool false, .int .i64 0, .int .i64 0, .int .i64 0, .int .i64 0] 36)).cell? ⟨g, 0, none⟩ = some (.pointer (some ⟨r, 0, none⟩)) := by rw [((Below.refl w1.heap.size w1).alloc (Nat.le_refl _) _).cell hgz]; exact c0
  have e1 : (w1.alloc (.cells #[.int .i64 0, .bool false, .int .i64 0, .int .i64 0, .int .i64 0, .int .i64 0] 36)).cell? ⟨g, 1, none⟩ = some (.slice a N c) := by rw [((Below.refl w1.heap.size w1).alloc (Nat.le_refl _) _).cell hgz]; exact c1
  obtain ⟨_, _, -, -, -, -, -, -, hatz⟩ := HZ.cells
  have HAZ : Hid (Calls Tryz.prog 39 #[.pointer (some ⟨r, 0, none⟩)] (w1.alloc (.cells #[.int .i64 0, .bool false, .int .i64 0, .int .i64 0, .int .i64 0, .int .i64 0] 36)).drew fun e w' => e = .returned (.int .i64 p) ∧ w' = (w1.alloc (.cells #[.int .i64 0, .bool false, .int .i64 0, .int .i64 0, .int .i64 0, .int .i64 0] 36)).drew) := hatz 1
  clear HZ hatz hgz
  have HAT : Hid (Calls Tryz.prog 39 #[.pointer (some ⟨r, 0, none⟩)] w1.drew fun e w' => e = .returned (.int .i64 p) ∧ w' = w1.drew) := hat 1
  have HSZ := hide hsz
  clear H HR HP T O hat hob hsz c3
  go_enter Tryz.func25, Tryz.ntmps25
  go_wp2
  rw [HW1.out]
  go_cut [3] (fun s3 wx => s3 = .pointer (some ⟨w.heap.size + 1, 0, none⟩) ∧ Hid (TX W wx g r row p L out dn (ys ++ [(KR, tb w.heap.size (pcO 0 false 0 0 0 0))] ++ [(KP, tb (w.heap.size + 1) (pcO 0 false p 0 N 0))])))
  case first =>
    go_region_with (go_at_call 39; (with_reducible (first | refine HAT.out.mono ?_ | refine HAZ.out.mono ?_)); rintro e w2 ⟨rfl, hw2⟩; rw [hw2]; clear hw2)
    all_goals
      go_wp2_with fail
      go_meet
      rw [HSZ.out]
      exact ⟨rfl, HTX⟩
  case rest =>
  obtain ⟨rfl, HT1⟩ := hcut
  clear HTX HAT HAZ c0 c1 e0 e1 HSZ HW1
  obtain ⟨P, HPP⟩ : ∃ P, Hid (w.heap.size + 1 = P) := ⟨_, rfl⟩
  obtain ⟨R, HRR⟩ : ∃ R, Hid (w.heap.size = R) := ⟨_, rfl⟩
  rw [HPP.out, HRR.out] at HT1
  rw [HPP.out, HRR.out]
  have HK1 := hide (htk HT1.out 1 (by omega))
  go_wp2_with fail
  refine HK1.out.mono ?_
  rintro e w2 (⟨hp1, rfl, h2⟩ | ⟨hp1, rfl, h2⟩)
  case inr =>
    have HX := hide h2
    clear h2
    go_wp2
    exact ⟨rfl, 80, false, 0, p, out, Blk.short (by omega), .inr ⟨by decide, rfl, Bel.sub HX.out fun d hd => by simp [hd]⟩⟩
  obtain ⟨v1, HV1⟩ : ∃ v1, Hid (v1 = ahead row p 1) := ⟨_, rfl⟩
  rw [← HV1.out]
  obtain ⟨f, hf⟩ : ∃ f : Bool, (v1 == 1) = f := ⟨_, rfl⟩
  have HF : Hid ((ahead row p 1 == 1) = f) := by rw [← HV1.out]; exact hf
  have h3 := h2.pc f
  obtain ⟨x0, x1, x2, x3, x4, x5, xf⟩ := pc_cells h2.box
  have HK2 := hide (htk h3 2 (by omega))
  clear h2 h3 HK1
  go_wp2_with fail
  refine HK2.out.mono ?_
  rintro e w3 (⟨hp2, rfl, h4⟩ | ⟨hp2, rfl, h4⟩)
  case inr =>
    have HX := hide h4
    clear h4
    go_wp2
    exact ⟨rfl, 80, false, 0, p, out, Blk.short (by omega), .inr ⟨by decide, rfl, Bel.sub HX.out fun d hd => by simp [hd]⟩⟩
  have hp3 : p + 3 ≤ row.length := by omega
  rw [show p + 1 + 2 = p + 3 by omega] at h4
  obtain ⟨v2, HV2⟩ : ∃ v2, Hid (v2 = ahead row (p + 1) 2) := ⟨_, rfl⟩
  have hv2 : 0 ≤ v2 ∧ v2 < 4 := by rw [HV2.out]; exact ⟨(ahead_bound HBT.out _ _).1, (ahead_bound HBT.out (p + 1) 2).2⟩
  rw [← HV2.out]
  obtain ⟨m0, m1, m2, m3, m4, m5, mf⟩ := pc_cells h4.box
  have h5 := h4.pk v2
  obtain ⟨w4, HW4⟩ : ∃ w4, Hid (w3.setCell ⟨P, 0, none⟩ (.int .i64 v2) = w4) := ⟨_, rfl⟩
  rw [HW4.out] at h5
  have n0 := (pc_cells h5.box).1
  have HX5 := hide h5
  clear h4 h5 HK2 x0 x1 x2 x3 x4 x5 xf
  obtain ⟨hv20, hv24⟩ := hv2
  have hcases : v2 = 0 ∨ v2 = 1 ∨ v2 = 2 ∨ v2 = 3 := by omega
  have n0' : (w3.setCell ⟨P, 0, none⟩ (.int .i64 v2)).cell? ⟨P, 0, none⟩ = some (.int .i64 v2) := by rw [HW4.out]; exact n0
  rcases hcases with rfl | rfl | rfl | rfl
  · have HST := hide (hstored HX5.out)
    obtain ⟨A, HA⟩ : ∃ A, Hid (A = st1 row L (p + 3) out) := ⟨_, rfl⟩
    rw [← HA.out] at HST
    obtain ⟨E, q, o⟩ := A
    simp only at HST
    have HBK0 : Hid (Blk row L p out E f 0 q o) := by rw [← HF.out]; exact Blk.stored hp3 HV2.out.symm HA.out.symm
    clear m1 m2 m3 m4 m5
    go_wp2_with fail
    rw [HW4.out]
    refine HST.out.mono ?_
    rintro e wz (⟨rfl, rfl, hz⟩ | ⟨he, rfl, hz⟩)
    case inr =>
      have HX := hide hz
      clear hz n0 n0' m0 mf
      go_wp2
      exact ⟨rfl, E, f, 0, q, o, HBK0.out, .inr ⟨he, rfl, Bel.sub HX.out fun d hd => by simp [hd]⟩⟩
    have HBK := HBK0
    have HZ : Hid (TX W wz g r row q L o dn (ys ++ (KR, tb R (pcO 0 false 0 0 0 0)) :: (KP, tb P (pcO 0 f p 0 N 0)) :: [])) := by
      have := hz
      simp only [List.append_assoc, List.cons_append, List.nil_append] at this
      exact this
    clear hz n0 n0' m0 mf HST HX5
    obtain ⟨a5, x5, d0, d1, -, -, -, -, hat5⟩ := HZ.out.cells
    obtain ⟨M, HM⟩ : ∃ M : Nat, Hid (M = o.length) := ⟨_, rfl⟩
    rw [← HM.out] at d1
    have HAT5 : Hid (Calls Tryz.prog 39 #[.pointer (some ⟨r, 0, none⟩)] wz.drew fun e w' => e = .returned (.int .i64 q) ∧ w' = wz.drew) := hat5 1
    obtain ⟨w5, HW5⟩ : ∃ w5, Hid (((wz.setCell ⟨P, 3, none⟩ (.int .i64 q)).setCell ⟨P, 5, none⟩ (.int .i64 M)).drew = w5) := ⟨_, rfl⟩
    obtain ⟨-, -, -, -, htl⟩ := HZ.out.tail w5 (by rw [← HM.out]; exact HW5.out.symm)
    obtain ⟨-, -, -, y1, -, y2, y3⟩ := pc_cells (TX.box2 HZ.out)
    have HTL := hide htl
    clear hat5 htl
    go_wp2
    go_cut [] (fun wx => wx = w5)
    case first =>
      go_region_with (go_at_call 39; (with_reducible refine HAT5.out.mono ?_); rintro e w7 ⟨rfl, hw7⟩; rw [hw7]; clear hw7)
      all_goals
        rw [HW5.out]
        go_wp2_with fail
        go_meet
        rfl
    case rest =>
    subst hcut
    clear y1 y2 y3 d0 d1 HAT5
    obtain ⟨y5, ⟨z3, y6⟩, y7, hend⟩ := HTL.out
    obtain ⟨⟨g0, g1, g2, g3, g4, g5⟩, hR, hT⟩ := hend _ rfl
    rw [← HM.out] at g5 hT
    obtain ⟨r0, r1, r2, r3, r4, r5, rf⟩ := pc_cells hR
    have hbx := hT.box
    have HS6 := hide (pc_cells hbx)
    have HTE := hide hT
    clear hend hR hT hbx HTL
    go_wp2
    obtain ⟨s0, s1, s2, s3, s4, s5, -⟩ := HS6.out
    refine bodyPost_ret (v := .agg #[.int .i64 0, .bool f, .int .i64 p, .int .i64 q, .int .i64 N, .int .i64 M]) (by simp [results, Tryz.results25, go_sem, s0, s1, s2, s3, s4, s5]) rfl ?_
    exact ⟨0, f, 0, q, o, HBK.out, .inl ⟨rfl, by rw [HN.out, HM.out], _, HTE.out⟩⟩
  · have HFC := hide (hfixed HX5.out)
    clear m1 m2 m3 m4 m5
    go_wp2_with fail
    rw [HW4.out]
    refine HFC.out.mono ?_
    rintro e w6 ⟨p1, p2, zs, rfl, h6, hc1, hc2⟩
    have HSY := hide (hsyms h6 hc1 hc2 fl_ok (by decide) (by decide))
    clear h6 hc1 hc2 HFC n0 n0' m0 mf
    go_wp2_with fail
    refine HSY.out.mono ?_
    rintro e wz ⟨E, q, o, hS, ⟨rfl, rfl, zs2, hz⟩ | ⟨he, rfl, hz⟩⟩
    case inr =>
      have HX := hide hz
      have HBK : Hid (Blk row L p out E f 1 q o) := by rw [← HF.out]; exact Blk.fixed hp3 HV2.out.symm hS
      clear hz hS
      go_wp2
      exact ⟨rfl, E, f, 1, q, o, HBK.out, .inr ⟨he, rfl, Bel.sub HX.out fun d hd => by simp [hd]⟩⟩
    have HBK : Hid (Blk row L p out 0 f 1 q o) := by rw [← HF.out]; exact Blk.fixed hp3 HV2.out.symm hS
    have HZ : Hid (TX W wz g r row q L o dn (ys ++ (KR, tb R (pcO 0 false 0 0 0 0)) :: (KP, tb P (pcO 1 f p 0 N 0)) :: (zs ++ zs2))) := by
      have := hz
      simp only [List.append_assoc, List.cons_append, List.nil_append] at this
      exact this
    clear hz hS HSY HX5
    obtain ⟨a5, x5, d0, d1, -, -, -, -, hat5⟩ := HZ.out.cells
    obtain ⟨M, HM⟩ : ∃ M : Nat, Hid (M = o.length) := ⟨_, rfl⟩
    rw [← HM.out] at d1
    have HAT5 : Hid (Calls Tryz.prog 39 #[.pointer (some ⟨r, 0, none⟩)] wz.drew fun e w' => e = .returned (.int .i64 q) ∧ w' = wz.drew) := hat5 1
    obtain ⟨w5, HW5⟩ : ∃ w5, Hid (((wz.setCell ⟨P, 3, none⟩ (.int .i64 q)).setCell ⟨P, 5, none⟩ (.int .i64 M)).drew = w5) := ⟨_, rfl⟩
    obtain ⟨-, -, -, -, htl⟩ := HZ.out.tail w5 (by rw [← HM.out]; exact HW5.out.symm)
    obtain ⟨-, -, -, y1, -, y2, y3⟩ := pc_cells (TX.box2 HZ.out)
    have HTL := hide htl
    clear hat5 htl
    go_wp2
    go_cut [] (fun wx => wx = w5)
    case first =>
      go_region_with (go_at_call 39; (with_reducible refine HAT5.out.mono ?_); rintro e w7 ⟨rfl, hw7⟩; rw [hw7]; clear hw7)
      all_goals
        rw [HW5.out]
        go_wp2_with fail
        go_meet
        rfl
    case rest =>
    subst hcut
    clear y1 y2 y3 d0 d1 HAT5
    obtain ⟨y5, ⟨z3, y6⟩, y7, hend⟩ := HTL.out
    obtain ⟨⟨g0, g1, g2, g3, g4, g5⟩, hR, hT⟩ := hend _ rfl
    rw [← HM.out] at g5 hT
    obtain ⟨r0, r1, r2, r3, r4, r5, rf⟩ := pc_cells hR
    have hbx := hT.box
    have HS6 := hide (pc_cells hbx)
    have HTE := hide hT
    clear hend hR hT hbx HTL
    go_wp2
    obtain ⟨s0, s1, s2, s3, s4, s5, -⟩ := HS6.out
    refine bodyPost_ret (v := .agg #[.int .i64 1, .bool f, .int .i64 p, .int .i64 q, .int .i64 N, .int .i64 M]) (by simp [results, Tryz.results25, go_sem, s0, s1, s2, s3, s4, s5]) rfl ?_
    exact ⟨0, f, 1, q, o, HBK.out, .inl ⟨rfl, by rw [HN.out, HM.out], _, HTE.out⟩⟩
  · have HFC := hide (hown HX5.out HT.out HO.out)
    clear m1 m2 m3 m4 m5
    go_wp2_with fail
    rw [HW4.out]
    refine HFC.out.mono ?_
    rintro e w6 (⟨hr0, p1, p2, zs, rfl, h6, hc1, hc2⟩ | ⟨hr0, rfl, h6⟩)
    case inr =>
      have HX := hide h6
      have HBK : Hid (Blk row L p out (rdA row (p + 3)).1 false 0 p out) := Blk.head hp3 HV2.out.symm hr0
      clear h6 n0 n0' m0 mf
      obtain ⟨E, HE⟩ : ∃ E, Hid (E = (rdA row (p + 3)).1) := ⟨_, rfl⟩
      rw [← HE.out] at hr0 HBK ⊢
      go_wp2
      exact ⟨rfl, E, false, 0, p, out, HBK.out, .inr ⟨hr0, rfl, Bel.sub HX.out fun d hd => by simp [hd]⟩⟩
    obtain ⟨gd1, gd2, gd3⟩ := rd_good HBT.out hr0
    have HSY := hide (hsyms h6 hc1 hc2 gd1 (by omega) (by omega))
    have HR0 := hide hr0
    clear h6 hc1 hc2 HFC n0 n0' m0 mf gd1 gd2 gd3 hr0
    go_wp2_with fail
    refine HSY.out.mono ?_
    rintro e wz ⟨E, q, o, hS, ⟨rfl, rfl, zs2, hz⟩ | ⟨he, rfl, hz⟩⟩
    case inr =>
      have HX := hide hz
      have HBK : Hid (Blk row L p out E f 2 q o) := by rw [← HF.out]; exact Blk.dyn hp3 HV2.out.symm HR0.out hS
      clear hz hS
      go_wp2
      exact ⟨rfl, E, f, 2, q, o, HBK.out, .inr ⟨he, rfl, Bel.sub HX.out fun d hd => by simp [hd]⟩⟩
    have HBK : Hid (Blk row L p out 0 f 2 q o) := by rw [← HF.out]; exact Blk.dyn hp3 HV2.out.symm HR0.out hS
    have HZ : Hid (TX W wz g r row q L o dn (ys ++ (KR, tb R (pcO 0 false 0 0 0 0)) :: (KP, tb P (pcO 2 f p 0 N 0)) :: (zs ++ zs2))) := by
      have := hz
      simp only [List.append_assoc, List.cons_append, List.nil_append] at this
      exact this
    clear hz hS HSY HX5
    obtain ⟨a5, x5, d0, d1, -, -, -, -, hat5⟩ := HZ.out.cells
    obtain ⟨M, HM⟩ : ∃ M : Nat, Hid (M = o.length) := ⟨_, rfl⟩
    rw [← HM.out] at d1
    have HAT5 : Hid (Calls Tryz.prog 39 #[.pointer (some ⟨r, 0, none⟩)] wz.drew fun e w' => e = .returned (.int .i64 q) ∧ w' = wz.drew) := hat5 1
    obtain ⟨w5, HW5⟩ : ∃ w5, Hid (((wz.setCell ⟨P, 3, none⟩ (.int .i64 q)).setCell ⟨P, 5, none⟩ (.int .i64 M)).drew = w5) := ⟨_, rfl⟩
    obtain ⟨-, -, -, -, htl⟩ := HZ.out.tail w5 (by rw [← HM.out]; exact HW5.out.symm)
    obtain ⟨-, -, -, y1, -, y2, y3⟩ := pc_cells (TX.box2 HZ.out)
    have HTL := hide htl
    clear hat5 htl
    go_wp2
    go_cut [] (fun wx => wx = w5)
    case first =>
      go_region_with (go_at_call 39; (with_reducible refine HAT5.out.mono ?_); rintro e w7 ⟨rfl, hw7⟩; rw [hw7]; clear hw7)
      all_goals
        rw [HW5.out]
        go_wp2_with fail
        go_meet
        rfl
    case rest =>
    subst hcut
    clear y1 y2 y3 d0 d1 HAT5
    obtain ⟨y5, ⟨z3, y6⟩, y7, hend⟩ := HTL.out
    obtain ⟨⟨g0, g1, g2, g3, g4, g5⟩, hR, hT⟩ := hend _ rfl
    rw [← HM.out] at g5 hT
    obtain ⟨r0, r1, r2, r3, r4, r5, rf⟩ := pc_cells hR
    have hbx := hT.box
    have HS6 := hide (pc_cells hbx)
    have HTE := hide hT
    clear hend hR hT hbx HTL
    go_wp2
    obtain ⟨s0, s1, s2, s3, s4, s5, -⟩ := HS6.out
    refine bodyPost_ret (v := .agg #[.int .i64 2, .bool f, .int .i64 p, .int .i64 q, .int .i64 N, .int .i64 M]) (by simp [results, Tryz.results25, go_sem, s0, s1, s2, s3, s4, s5]) rfl ?_
    exact ⟨0, f, 2, q, o, HBK.out, .inl ⟨rfl, by rw [HN.out, HM.out], _, HTE.out⟩⟩
  · have HB := hide HX5.out.bel2
    have HBK : Hid (Blk row L p out 81 false 0 p out) := Blk.three hp3 HV2.out.symm
    clear m1 m2 m3 m4 m5
    go_wp2_with fail
    rw [HW4.out]
    refine (giveUp_any 81 _).mono ?_
    rintro e w6 ⟨rfl, rfl⟩
    go_wp2
    exact ⟨rfl, 81, false, 0, p, out, HBK.out, .inr ⟨by decide, rfl, Bel.sub HB.out fun d hd => by simp [hd]⟩⟩

theorem hblock {W w : World} {g r : Nat} {row : List Int} {p L : Nat} {out : List Int} {dn : Bool} {ys : List ((Nat → Nat) × Thing)} (H : TX W w g r row p L out dn ys) (T : Tab W) (O : Odr W) :
    Calls Tryz.prog 25 #[.pointer (some ⟨g, 0, none⟩)] w fun e w' => ∃ E f k q o, Blk row L p out E f k q o ∧ ((E = 0 ∧ e = .returned (.agg #[.int .i64 k, .bool f, .int .i64 p, .int .i64 q, .int .i64 out.length, .int .i64 o.length]) ∧ ∃ zs, TX W w' g r row q L o f (ys ++ zs)) ∨ (E ≠ 0 ∧ Off W E e w')) := by
  refine (hblockG H T O).mono ?_
  rintro e w' ⟨E, f, k, q, o, h1, h2 | ⟨h2, h3⟩⟩
  · exact ⟨E, f, k, q, o, h1, .inl h2⟩
  · exact ⟨E, f, k, q, o, h1, .inr ⟨h2, h3.off⟩⟩
end Go.Proofs.YtmjdpfigkojolaaGreatDoor

