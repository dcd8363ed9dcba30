import Derived.Test.YtcgeaidegppiaaaDoorGA28
namespace Go.Proofs.YtcgeaidegppiaaaDoor
open Go.RowKit Go.Maps
set_option maxRecDepth 20000
set_option linter.unusedVariables false

theorem fl_is : FL = fxL 288 := by decide +kernel
theorem fl_lens : Lens FL := by unfold Lens; decide +kernel
theorem fd_lens : Lens FD := by unfold Lens; decide +kernel
theorem fl_ok : dcE FL = 0 := by
  have h1 : chkE FL = 0 := by unfold chkE; rw [if_neg (by decide +kernel), if_pos fl_lens]
  have h2 : shp FL = 4 := by decide +kernel
  exact (dcE_iff FL).2 ⟨h1, .inr h2⟩
theorem fd_ok : dcE FD = 0 := by
  have h1 : chkE FD = 0 := by unfold chkE; rw [if_neg (by decide +kernel), if_pos fd_lens]
  have h2 : shp FD = 4 := by decide +kernel
  exact (dcE_iff FD).2 ⟨h1, .inr h2⟩

/-- What a header's lengths are good for. -/
theorem rd_good {row : List Int} {p : Nat} (hb : Bit row) (h : (rdA row p).1 = 0) : dcE (rdA row p).2.1 = 0 ∧ (rdA row p).2.1.length ≤ 286 ∧ (rdA row p).2.2.1.length ≤ 30 := by
  rcases rd_cases row p with ⟨q, _⟩ | ⟨_, h1, h2, ⟨a, q⟩, hx, hk, hr⟩
  · exact absurd h q
  simp only at hx hk hr
  have hf := rl_facts (C := smC row (p + 14) (rcN row p)) hb (rcL row p + rcD row p) (rcL row p + rcD row p) [] (p + 14 + 3 * rcN row p) (by simp) (by simp) (by simp)
  rw [hx] at hf
  obtain ⟨hl, hin⟩ := hf rfl
  simp only at hl hin
  have hc : ¬ (286 < rcL row p ∨ 30 < rcD row p) := fun c => by
    unfold rcE at h1
    by_cases c0 : row.length < p + 14
    · rw [if_pos c0] at h1; omega
    · rw [if_neg c0, if_pos c] at h1; omega
  rw [hr]
  simp only
  have e1 : (a.take (rcL row p)).length = rcL row p := by rw [List.length_take]; omega
  have e2 : (a.drop (rcL row p)).length = rcD row p := by rw [List.length_drop]; omega
  refine ⟨?_, by omega, by omega⟩
  have i1 : Lens (a.take (rcL row p)) := ⟨by omega, fun x hx => hin x (List.mem_of_mem_take hx)⟩
  have h4 : chkS (a.take (rcL row p)) = 4 ∨ chkS (a.take (rcL row p)) = 1 := by
    unfold hck at hk
    by_cases c : (a.take (rcL row p)).getD 256 0 = 0 ∨ (chkS (a.take (rcL row p)) ≠ 4 ∧ chkS (a.take (rcL row p)) ≠ 1)
    · rw [if_pos c] at hk; omega
    · omega
  unfold chkS at h4
  rw [if_pos i1] at h4
  refine (dcE_iff _).2 ⟨by unfold chkE; rw [if_neg (by omega), if_pos i1], by omega⟩

/-- A code's decoder: none, where the code has no words, or it lies there. -/
def Cd (ys : List ((Nat → Nat) × Thing)) (p : Option Addr) (l : List Int) : Prop :=
  (p = none ∧ dcE l ≠ 0) ∨ ∃ (gl i : Nat) (K : Nat → Nat), p = some ⟨gl, 0, none⟩ ∧ ys[i]? = some (K, td gl l)

theorem get_app {α : Type} {xs ys : List α} {i : Nat} {a : α} (h : xs[i]? = some a) : (xs ++ ys)[i]? = some a := by
  rw [List.getElem?_append_left (List.getElem?_eq_some_iff.1 h).1]; exact h

theorem Cd.app {ys zs : List ((Nat → Nat) × Thing)} {p : Option Addr} {l : List Int} (h : Cd ys p l) : Cd (ys ++ zs) p l := by
  rcases h with h | ⟨gl, i, K, h1, h2⟩
  · exact .inl h
  · exact .inr ⟨gl, i, K, h1, get_app h2⟩

theorem Cd.pre {ys zs : List ((Nat → Nat) × Thing)} {p : Option Addr} {l : List Int} (h : Cd zs p l) : Cd (ys ++ zs) p l := by
  rcases h with h | ⟨gl, i, K, h1, h2⟩
  · exact .inl h
  · exact .inr ⟨gl, ys.length + i, K, h1, by rw [List.getElem?_append_right (by omega)]; simpa using h2⟩

theorem Fx.app {ys zs : List ((Nat → Nat) × Thing)} {fl fd : Option Addr} (h : Fx ys fl fd) : Fx (ys ++ zs) fl fd := by
  rcases h with h | ⟨gl, gd, i, j, Kl, Kd, h1, h2, h3, h4⟩
  · exact .inl h
  · exact .inr ⟨gl, gd, i, j, Kl, Kd, h1, h2, get_app h3, get_app h4⟩

/-- What NewDecoder answers, in one form. -/
def Zd (p : Option Addr) (l : List Int) (zs : List ((Nat → Nat) × Thing)) : Prop := (p = none ∧ dcE l ≠ 0 ∧ zs = []) ∨ ∃ (gl : Nat) (K : Nat → Nat), p = some ⟨gl, 0, none⟩ ∧ zs = [(K, td gl l)]

theorem at_mid {α : Type} (a : α) (zs : List α) : ∀ xs : List α, (xs ++ [a] ++ zs)[xs.length]? = some a
  | [] => rfl
  | x :: xs => by simp

theorem Zd.cd {p : Option Addr} {l : List Int} {zs : List ((Nat → Nat) × Thing)} (h : Zd p l zs) (us bs : List ((Nat → Nat) × Thing)) : Cd (us ++ zs ++ bs) p l := by
  rcases h with ⟨h1, h2, _⟩ | ⟨gl, K, h1, rfl⟩
  · exact .inl ⟨h1, h2⟩
  · exact .inr ⟨gl, us.length, K, h1, at_mid _ _ _⟩

theorem hdec {W w : World} {xs : List ((Nat → Nat) × Thing)} (H : Herd W w xs) (i : Nat) {K : Nat → Nat} {v : Value} {l : List Int} (hi : xs[i]? = some (K, ti v l)) :
    Calls Tryd.prog 44 #[v] w fun e w' => ∃ p zs, e = .returned (.tuple #[.pointer p, .int .i64 (dcE l)]) ∧ Herd W w' (xs ++ zs) ∧ Zd p l zs := by
  refine (hdecode H v l (H.isi i hi)).mono ?_
  rintro e w' (⟨h1, rfl, h2⟩ | ⟨h1, g, K', rfl, h2⟩)
  · exact ⟨none, [], rfl, by simpa using h2, .inl ⟨rfl, h1, rfl⟩⟩
  · exact ⟨some ⟨g, 0, none⟩, [(K', td g l)], by rw [h1], h2, .inr ⟨g, K', rfl, rfl⟩⟩

theorem at_one {α : Type} (a b : α) (zs : List α) : ∀ xs : List α, (xs ++ [a] ++ [b] ++ zs)[xs.length]? = some a
  | [] => rfl
  | x :: xs => by simp
theorem at_two {α : Type} (a b : α) (zs : List α) : ∀ xs : List α, (xs ++ [a] ++ [b] ++ zs)[xs.length + 1]? = some b
  | [] => rfl
  | x :: xs => by simp
theorem set_one {α : Type} (a b c : α) (zs : List α) : ∀ xs : List α, (xs ++ [a] ++ [b] ++ zs).set xs.length c = xs ++ [c] ++ [b] ++ zs
  | [] => rfl
  | x :: xs => by simp
theorem set_two {α : Type} (a b c : α) (zs : List α) : ∀ xs : List α, (xs ++ [a] ++ [b] ++ zs).set (xs.length + 1) c = xs ++ [a] ++ [c] ++ zs
  | [] => rfl
  | x :: xs => by simp

abbrev cdO1 (p q : Option Addr) : Obj := .cells #[.pointer p, .pointer q] 39
theorem cd_cells {w : World} {g : Nat} {p q : Option Addr} (h : w.heap[g]? = some (cdO1 p q)) : w.cell? ⟨g, 0, none⟩ = some (.pointer p) ∧ w.cell? ⟨g, 1, none⟩ = some (.pointer q) ∧ ∀ k, w.frozen? ⟨g, k, none⟩ = false := by
  refine ⟨?_, ?_, fun k => ?_⟩
  · unfold World.cell?; rw [h]; rfl
  · unfold World.cell?; rw [h]; rfl
  · unfold World.frozen?; rw [h]; rfl

theorem Herd.tbat {W w : World} {xs : List ((Nat → Nat) × Thing)} (H : Herd W w xs) (i : Nat) {K : Nat → Nat} {g : Nat} {o : Obj} (hi : xs[i]? = some (K, tb g o)) : w.heap[g]? = some o := by
  have h : (tb g o).P w K := H.rep i _ hi
  exact h.1

set_option maxHeartbeats 2000000 in
theorem hncodes {W w : World} {xs : List ((Nat → Nat) × Thing)} (H : Herd W w xs) (i j : Nat) {K K' : Nat → Nat} {v1 v2 : Value} {l d : List Int} (hi : xs[i]? = some (K, ti v1 l)) (hj : xs[j]? = some (K', ti v2 d)) :
    Calls Tryd.prog 34 #[v1, v2] w fun e w' => ∃ p1 p2 zs, e = .returned (.agg #[.pointer p1, .pointer p2]) ∧ Herd W w' (xs ++ zs) ∧ Cd zs p1 l ∧ Cd zs p2 d := by
  obtain ⟨KA, hA⟩ := H.box1 (cdO1 none none)
  obtain ⟨KB, hB⟩ := hA.box1 (cdO1 none none)
  have HI := hide hi
  have HJ := hide hj
  obtain ⟨w2, hw2⟩ : ∃ w2, (w.alloc (cdO1 none none)).alloc (cdO1 none none) = w2 := ⟨_, rfl⟩
  rw [hw2] at hB
  have hsz : (w.alloc (cdO1 none none)).heap.size = w.heap.size + 1 := size_alloc' _ _
  rw [hsz] at hB
  have HW := hide hw2
  have HC := hide (hdec hB i (get_front (get_front hi)))
  clear hA hB H hi hj hsz hw2
  go_enter Tryd.func34, Tryd.ntmps34
  go_wp2_with fail
  rw [HW.out]
  refine HC.out.mono ?_
  rintro e w3 ⟨p1, z1, rfl, h3, hz1⟩
  obtain ⟨k0, k1, k2⟩ := cd_cells (h3.tbat (xs.length + 1) (at_two _ _ _ _))
  have h4 := h3.bput (xs.length + 1) (at_two _ _ _ _) 0 (.pointer p1)
  rw [set_two] at h4
  have HZ1 := hide hz1
  obtain ⟨w4, HW4⟩ : ∃ w4, Hid (w3.setCell ⟨w.heap.size + 1, 0, none⟩ (.pointer p1) = w4) := ⟨_, rfl⟩
  rw [HW4.out] at h4
  have HC2 := hide (hdec h4 j (get_app (get_front (get_front HJ.out))))
  clear h3 h4 hz1 HC
  go_wp2_with fail
  rw [HW4.out]
  refine HC2.out.mono ?_
  rintro e w5 ⟨p2, z2, rfl, h5, hz2⟩
  rw [List.append_assoc] at h5
  have hb5 := h5.tbat (xs.length + 1) (at_two _ _ _ _)
  obtain ⟨m0, m1, m2⟩ := cd_cells (p := p1) (q := none) hb5
  obtain ⟨n0, n1, n2⟩ := cd_cells (h5.tbat xs.length (at_one _ _ _ _))
  have h6 := h5.bput (xs.length + 1) (at_two _ _ _ _) 1 (.pointer p2)
  rw [set_two] at h6
  have HZ2 := hide hz2
  obtain ⟨o0, o1, o2⟩ := cd_cells (p := p1) (q := p2) (h6.tbat (xs.length + 1) (at_two _ _ _ _))
  obtain ⟨q0, q1, q2⟩ := cd_cells (h6.tbat xs.length (at_one _ _ _ _))
  have h7 := h6.bput xs.length (at_one _ _ _ _) 0 (.pointer p1)
  rw [set_one] at h7
  have h8 := h7.bput xs.length (at_one _ _ _ _) 1 (.pointer p2)
  rw [set_one] at h8
  obtain ⟨r0, r1, r2⟩ := cd_cells (p := p1) (q := p2) (h8.tbat xs.length (at_one _ _ _ _))
  have HX := hide h8
  clear h5 h6 h7 h8 hz2 hb5 HC2 k0 k1 k2
  go_wp2
  refine bodyPost_ret (v := .agg #[.pointer p1, .pointer p2]) (by simp [results, Tryd.results34, go_sem, r0, r1]) rfl ?_
  refine ⟨p1, p2, [(KA, tb w.heap.size (cdO1 p1 p2)), (KB, tb (w.heap.size + 1) (cdO1 p1 p2))] ++ z1 ++ z2, rfl, by have := HX.out; simp only [List.append_assoc, List.cons_append, List.nil_append] at this ⊢; exact this, ?_, ?_⟩
  · exact Zd.cd HZ1.out [_, _] z2
  · have := Zd.cd HZ2.out ([(KA, tb w.heap.size (cdO1 p1 p2)), (KB, tb (w.heap.size + 1) (cdO1 p1 p2))] ++ z1) []
    rw [List.append_nil] at this
    exact this
end Go.Proofs.YtcgeaidegppiaaaDoor

namespace Go.Proofs.YtcgeaidegppiaaaDoor
open Go.RowKit Go.Maps
set_option maxRecDepth 20000
set_option linter.unusedVariables false

theorem Cd.some {ys : List ((Nat → Nat) × Thing)} {p : Option Addr} {l : List Int} (h : Cd ys p l) (hd : dcE l = 0) : ∃ (gl i : Nat) (K : Nat → Nat), p = .some ⟨gl, 0, none⟩ ∧ ys[i]? = .some (K, td gl l) := by
  rcases h with h | h
  · exact absurd hd h.2
  · exact h

theorem at_3 {α : Type} (x y z a : α) (zr : List α) : ∀ ys : List α, (x :: y :: z :: (ys ++ a :: zr))[ys.length + 3]? = some a
  | [] => rfl
  | u :: ys => by simp
theorem set_3 {α : Type} (x y z a b : α) (zr ys : List α) : (x :: y :: z :: (ys ++ a :: zr)).set (ys.length + 3) b = x :: y :: z :: (ys ++ b :: zr) := by simp

theorem set_last {α : Type} (xs : List α) (a b : α) : (xs ++ [a]).set xs.length b = xs ++ [b] := by simp

set_option maxHeartbeats 2000000 in
/-- The fixed codes, made with the first fixed block. -/
theorem hfixed {W w : World} {g r : Nat} {row : List Int} {p L : Nat} {out : List Int} {dn : Bool} {ys : List ((Nat → Nat) × Thing)} (H : TX W w g r row p L out dn ys) :
    Calls Tryd.prog 23 #[.pointer (some ⟨g, 0, none⟩)] w fun e w' => ∃ p1 p2 zs, e = .returned (.agg #[.pointer p1, .pointer p2]) ∧ TX W w' g r row p L out dn (ys ++ zs) ∧ Cd (ys ++ zs) p1 FL ∧ Cd (ys ++ zs) p2 FD := by
  obtain ⟨Kt, Kr, Ko, a, c, fl, fd, HH, hfx, hk⟩ := H
  have hg : g < w.heap.size := by
    have h : (tb g (txO r a out.length c L dn fl fd)).P w Kt := HH.rep 0 _ rfl
    exact h.2.2 g h.2.1
  obtain ⟨KA, hA⟩ := HH.box1 (cdO1 none none)
  have HA := hide hA
  have HK := hide hk
  obtain ⟨c0, c1, c2, c3, c4, c5⟩ := txO_cells (HA.out.tbat 0 rfl)
  have hne : ¬ g = w.heap.size := by omega
  clear hk c0 c1 c2 c3
  rcases hfx with ⟨rfl, rfl⟩ | ⟨gl, gd, i, j, Kl, Kd, rfl, rfl, hy1, hy2⟩
  case inr =>
    obtain ⟨a0, a1, a2⟩ := cd_cells (HA.out.tbat _ (get_last _ _))
    obtain ⟨KB, hB⟩ := HH.box1 (cdO1 (some ⟨gl, 0, none⟩) (some ⟨gd, 0, none⟩))
    obtain ⟨b0, b1, b2⟩ := cd_cells (p := some ⟨gl, 0, none⟩) (q := some ⟨gd, 0, none⟩) (hB.tbat _ (get_last _ _))
    have HX := hide hB
    have HY1 := hide hy1
    have HY2 := hide hy2
    clear hB hy1 hy2 HH hA
    go_enter Tryd.func23, Tryd.ntmps23
    go_wp2
    refine bodyPost_ret (v := .agg #[.pointer (some ⟨gl, 0, none⟩), .pointer (some ⟨gd, 0, none⟩)]) (by simp [results, Tryd.results23, go_sem, b0, b1]) rfl ?_
    exact ⟨_, _, [_], rfl, ⟨Kt, Kr, Ko, a, c, _, _, HX.out, Fx.app (.inr ⟨gl, gd, i, j, Kl, Kd, rfl, rfl, HY1.out, HY2.out⟩), HK.out⟩, .inr ⟨gl, i, Kl, rfl, get_app HY1.out⟩, .inr ⟨gd, j, Kd, rfl, get_app HY2.out⟩⟩
  case inl =>
    clear HH hA
    have HFL := hide (hflit HA.out fl_is)
    go_enter Tryd.func23, Tryd.ntmps23
    go_wp2_with fail
    refine HFL.out.mono ?_
    rintro e w2 ⟨a1, x1, K1, rfl, h1⟩
    have HX1 := hide h1
    have HFD := hide (hfdist h1 (D := FD) rfl)
    clear h1 HFL c4 c5
    go_wp2_with fail
    refine HFD.out.mono ?_
    rintro e w3 ⟨a2, x2, K2, rfl, h2⟩
    have HNC := hide (hncodes h2 _ _ (get_front (get_last _ _)) (get_last _ _))
    clear HFD h2
    go_wp2_with fail
    refine HNC.out.mono ?_
    rintro e w4 ⟨p1, p2, zs, rfl, h3, hc1, hc2⟩
    obtain ⟨g1, i1, k1, rfl, hi1⟩ := hc1.some fl_ok
    obtain ⟨g2, i2, k2, rfl, hi2⟩ := hc2.some fd_ok
    have hn1 := h3
    simp only [List.cons_append, List.nil_append, List.append_assoc] at hn1
    obtain ⟨zr, hzr⟩ : ∃ zr, (K1, ti (.slice a1 FL.length x1) FL) :: (K2, ti (.slice a2 FD.length x2) FD) :: zs = zr := ⟨_, rfl⟩
    rw [hzr] at hn1
    have HC1 : Hid (∀ b, Cd (ys ++ b :: zr) (some ⟨g1, 0, none⟩) FL) := fun b => by
      rw [← hzr, show ys ++ b :: (K1, ti (.slice a1 FL.length x1) FL) :: (K2, ti (.slice a2 FD.length x2) FD) :: zs = (ys ++ [b, (K1, ti (.slice a1 FL.length x1) FL), (K2, ti (.slice a2 FD.length x2) FD)]) ++ zs by simp]
      exact Cd.pre hc1
    have HC2 : Hid (∀ b, Cd (ys ++ b :: zr) (some ⟨g2, 0, none⟩) FD) := fun b => by
      rw [← hzr, show ys ++ b :: (K1, ti (.slice a1 FL.length x1) FL) :: (K2, ti (.slice a2 FD.length x2) FD) :: zs = (ys ++ [b, (K1, ti (.slice a1 FL.length x1) FL), (K2, ti (.slice a2 FD.length x2) FD)]) ++ zs by simp]
      exact Cd.pre hc2
    obtain ⟨d0, d1, d2, d3, d4, d5⟩ := txO_cells (hn1.tbat 0 rfl)
    have df := txO_free (hn1.tbat 0 rfl)
    have h4 := hn1.bput 0 rfl 4 (.pointer (some ⟨g1, 0, none⟩))
    have h5 := h4.bput 0 rfl 5 (.pointer (some ⟨g2, 0, none⟩))
    have h6 : Herd W ((w4.setCell ⟨g, 4, none⟩ (.pointer (some ⟨g1, 0, none⟩))).setCell ⟨g, 5, none⟩ (.pointer (some ⟨g2, 0, none⟩))) ((Kt, tb g (txO r a out.length c L dn (some ⟨g1, 0, none⟩) (some ⟨g2, 0, none⟩))) :: (Kr, tr r row p) :: (Ko, tl (.slice a out.length c) out) :: (ys ++ (KA, tb w.heap.size (cdO1 none none)) :: zr)) := h5
    obtain ⟨e0, e1, e2, e3, e4, e5⟩ := txO_cells (h6.tbat 0 rfl)
    obtain ⟨b0, b1, b2⟩ := cd_cells (h6.tbat _ (at_3 _ _ _ _ _ _))
    have h7 := h6.bput _ (at_3 _ _ _ _ _ _) 0 (.pointer (some ⟨g1, 0, none⟩))
    rw [set_3] at h7
    have h8 := h7.bput _ (at_3 _ _ _ _ _ _) 1 (.pointer (some ⟨g2, 0, none⟩))
    rw [set_3] at h8
    obtain ⟨f0, f1, f2⟩ := cd_cells (p := some ⟨g1, 0, none⟩) (q := some ⟨g2, 0, none⟩) (h8.tbat _ (at_3 _ _ _ _ _ _))
    have HX := hide h8
    clear h3 hn1 h4 h5 h6 h7 h8 hi1 hi2 hc1 hc2 HNC HX1 d0 d1 d2 d3 e0 e1 e2 e3 hzr
    go_wp2
    refine bodyPost_ret (v := .agg #[.pointer (some ⟨g1, 0, none⟩), .pointer (some ⟨g2, 0, none⟩)]) (by simp [results, Tryd.results23, go_sem, f0, f1]) rfl ?_
    obtain ⟨g1', j1, q1, he1, hj1⟩ := Cd.some (HC1.out (KA, tb w.heap.size (cdO1 (some ⟨g1, 0, none⟩) (some ⟨g2, 0, none⟩)))) fl_ok
    obtain ⟨g2', j2, q2, he2, hj2⟩ := Cd.some (HC2.out (KA, tb w.heap.size (cdO1 (some ⟨g1, 0, none⟩) (some ⟨g2, 0, none⟩)))) fd_ok
    exact ⟨_, _, _, rfl, ⟨Kt, Kr, Ko, a, c, _, _, HX.out, .inr ⟨g1', g2', j1, j2, q1, q2, he1, he2, hj1, hj2⟩, HK.out⟩, HC1.out _, HC2.out _⟩
end Go.Proofs.YtcgeaidegppiaaaDoor

