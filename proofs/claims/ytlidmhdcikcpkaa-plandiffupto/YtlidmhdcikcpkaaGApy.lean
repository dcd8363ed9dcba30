import Derived.Test.YtlidmhdcikcpkaaGApl
import Derived.Test.YtlidmhdcikcpkaaGApr
import Derived.Test.YtlidmhdcikcpkaaGZrt
import Derived.Test.YtlidmhdcikcpkaaGZfl
namespace Go.Proofs.Ytlidmhdcikcpkaa
open Go.RowKit Go.Maps
set_option maxRecDepth 20000
set_option linter.unusedVariables false
set_option linter.unusedSimpArgs false

def apE (c : Nat) (size : Int) (P : List Wn) : Int := if 16777216 < c ∨ ¬ domN size then 1 else if rgt size P 0 = false then 143 else 0
def apR (C : List Int) (size : Int) (R : List We) : List Int := if apE C.length size (nms R) = 0 then apl C size.toNat (prs R) else []

theorem apl_len {C : List Int} {n : Nat} : ∀ (P : List (Int × List Int)) (L : List Int), L.length = n → (∀ p ∈ P, 0 ≤ p.1 ∧ p.1 + (p.2.length : Int) ≤ (n : Int)) → (P.foldl (fun L p => apW L p.1.toNat p.2) L).length = n
  | [], L, h, _ => h
  | p :: r, L, h, hp => by
    have h1 := hp p (List.mem_cons_self ..)
    exact apl_len (C := C) r _ (by rw [apW_len (by omega)]; exact h) (fun q hq => hp q (List.mem_cons_of_mem _ hq))
theorem apl_size {C : List Int} {n : Nat} {R : List We} (hr : rgt (n : Int) (nms R) 0 = true) : (apl C n (prs R)).length = n := by
  refine apl_len (C := C) _ _ (ap0_len C n) (fun p hp => ?_)
  obtain ⟨e, he, rfl⟩ := List.mem_map.1 hp
  have := rgt_in _ 0 hr (Int.le_refl _) e.n (List.mem_map_of_mem he)
  exact ⟨this.1, this.2.2⟩

set_option maxHeartbeats 8000000 in
theorem apply_any (vc v : Value) (C : List Int) (R : List We) (size : Int) (w : World) (hc : SB w vc C) (hC : C.length ≤ 140737488351232) (h : SW w v R) (hs : sml R) (ho : ∀ e ∈ R, -9223372036854775808 ≤ e.at' ∧ e.at' ≤ 9223372036854775807) :
    Calls Try.prog 19 #[vc, .int .i64 size, v] w fun e w' => ∃ v', e = .returned (.tuple #[v', .int .i64 (apE C.length size (nms R))]) ∧ OB w' w.heap.size v' (apR C size R) ∧ Below w.heap.size w w' := by
  have HI := hide (fun w' => isSize_any size w')
  have HC := hide hc
  obtain ⟨co, cco, rfl, d1, d2, -, -⟩ := hc
  unfold maxLen at d2
  by_cases hbig : 16777216 < C.length
  case pos =>
    have HE : Hid (apE C.length size (nms R) = 1 ∧ apR C size R = []) := by
      have e : apE C.length size (nms R) = 1 := if_pos (.inl hbig)
      exact ⟨e, if_neg (by rw [e]; decide)⟩
    have hbg : (16777216 : Int) < (C.length : Int) := by omega
    clear h
    go_enter Try.func19, Try.ntmps19
    go_wp2
    go_ret2
    rw [HE.out.1, HE.out.2]
    exact ⟨_, rfl, World.ownsRow_nil _ _ _ _, Below.refl _ _⟩
  have hbg : (C.length : Int) ≤ 16777216 := by omega
  by_cases hd : domN size
  case neg =>
    have HE : Hid (apE C.length size (nms R) = 1 ∧ apR C size R = []) := by
      have e : apE C.length size (nms R) = 1 := if_pos (.inr hd)
      exact ⟨e, if_neg (by rw [e]; decide)⟩
    rw [decide_eq_false hd] at HI
    clear hd h
    go_enter Try.func19, Try.ntmps19
    go_wp2_with (go_at_call 27; refine (HI.out _).mono ?_; rintro e w2 ⟨rfl, h2⟩; subst h2)
    go_ret2
    rw [HE.out.1, HE.out.2]
    exact ⟨_, rfl, World.ownsRow_nil _ _ _ _, Below.refl _ _⟩
  rw [decide_eq_true hd] at HI
  have HRG := hide (right_any v R size w h hd ho hs.2)
  by_cases hr : rgt size (nms R) 0 = true
  case neg =>
    have hr' : rgt size (nms R) 0 = false := by simpa using hr
    have HE : Hid (apE C.length size (nms R) = 143 ∧ apR C size R = []) := by
      have e : apE C.length size (nms R) = 143 := by unfold apE; rw [if_neg (fun q => q.elim (fun x => absurd x (by omega)) (fun x => x hd)), if_pos hr']
      exact ⟨e, if_neg (by rw [e]; decide)⟩
    rw [hr'] at HRG
    clear hr hr' hd h ho
    go_enter Try.func19, Try.ntmps19
    go_wp2_with fail
    refine (HI.out _).mono ?_
    rintro e w2 ⟨rfl, h2⟩
    rw [h2]
    clear h2 w2
    go_wp2_with fail
    refine HRG.out.mono ?_
    rintro e w3 ⟨rfl, hb3⟩
    have HB3 := hide hb3
    clear hb3
    go_wp2
    go_ret2
    rw [HE.out.1, HE.out.2]
    exact ⟨_, rfl, World.ownsRow_nil _ _ _ _, HB3.out⟩
  obtain ⟨n, rfl⟩ : ∃ n : Nat, size = (n : Int) := ⟨size.toNat, by have := hd.1; omega⟩
  have hn : n ≤ 16777216 := by have := hd.2; omega
  have HE : Hid (apE C.length (n : Int) (nms R) = 0 ∧ apR C (n : Int) R = apl C n (prs R)) := by
    have e : apE C.length (n : Int) (nms R) = 0 := by unfold apE; rw [if_neg (fun q => q.elim (fun x => absurd x (by omega)) (fun x => x hd)), if_neg (by rw [hr]; decide)]
    exact ⟨e, if_pos e⟩
  have HAP := hide (fun w' (hb : Below w.heap.size w w') => applied_any _ v C R n w' (HC.out.below hb) (h.low hb) hn hr)
  have HLN := hide (apl_size (C := C) hr)
  rw [hr] at HRG
  clear hr hd h ho
  go_enter Try.func19, Try.ntmps19
  go_wp2_with fail
  refine (HI.out _).mono ?_
  rintro e w2 ⟨rfl, h2⟩
  rw [h2]
  clear h2 w2
  go_wp2_with fail
  refine HRG.out.mono ?_
  rintro e w3 ⟨rfl, hb3⟩
  have HB3 := hide hb3
  clear hb3
  go_wp2_with fail
  refine (HAP.out w3 HB3.out).mono ?_
  rintro e w4 ⟨rfl, hg4, hb4⟩
  have HB4 := hide (HB3.out.trans (hb4.mono HB3.out.size))
  have HO4 : Hid (OB w4 w.heap.size (.slice (some ⟨w3.heap.size, 0, none⟩) n n) (apl C n (prs R))) := by
    have := OB.of_full (base := w.heap.size) hg4 HB3.out.size (by rw [HLN.out]; unfold maxLen; omega)
    rw [HLN.out] at this
    exact this
  clear hg4 hb4
  go_wp2
  go_ret2
  rw [HE.out.1, HE.out.2]
  exact ⟨_, rfl, HO4.out, HB4.out⟩

theorem set_run (C : List Int) {n k : Nat} (h : k < C.length) (hn : k < n) : (C.take k ++ List.replicate (n - k) 0).set k (C.getD k 0) = C.take (k + 1) ++ List.replicate (n - (k + 1)) 0 := by
  have hl : (C.take k).length = k := by rw [List.length_take]; omega
  rw [List.set_append_right _ _ (by omega), hl, Nat.sub_self, take_get 0 h, List.append_assoc, show n - k = (n - (k + 1)) + 1 by omega, List.replicate_succ]
  rfl
theorem set_put (L l : List Int) {A k : Nat} (h : k < l.length) (hn : A + l.length ≤ L.length) : (L.take A ++ l.take k ++ L.drop (A + k)).set (A + k) (l.getD k 0) = L.take A ++ l.take (k + 1) ++ L.drop (A + (k + 1)) := by
  have hl : (L.take A ++ l.take k).length = A + k := by rw [List.length_append, List.length_take, List.length_take]; omega
  rw [List.set_append_right _ _ (by omega), hl, Nat.sub_self, take_get 0 h, List.drop_eq_getElem_cons (by omega), List.set_cons_zero]
  simp only [List.append_assoc, List.cons_append, List.nil_append]
  rfl
theorem put_len (L l : List Int) {A k : Nat} (h : k ≤ l.length) (hn : A + l.length ≤ L.length) : (L.take A ++ l.take k ++ L.drop (A + k)).length = L.length := by
  simp only [List.length_append, List.length_take, List.length_drop]
  omega
theorem run_len (C : List Int) {n k : Nat} (h : k ≤ C.length) (hn : k ≤ n) : (C.take k ++ List.replicate (n - k) 0).length = n := by
  simp only [List.length_append, List.length_take, List.length_replicate]
  omega
end Go.Proofs.Ytlidmhdcikcpkaa

