import Derived.Test.YtjjepgkcgbbmhaaGLnb
import Derived.Lib.Bytes
namespace Go.Proofs.Ytjjepgkcgbbmhaa
open Go.RowKit Go.Maps
set_option maxRecDepth 20000
set_option linter.unusedVariables false

theorem byt_mem {l : List Int} (h : Byt l) : ∀ x ∈ l, 0 ≤ x ∧ x < 256 := by
  intro x hx
  obtain ⟨i, hi, rfl⟩ := List.mem_iff_getElem.1 hx
  have := h i
  rwa [show l.getD i 0 = l[i] by simp [hi]] at this

theorem str_inj {xs ys : List Int} (hx : ∀ x ∈ xs, 0 ≤ x ∧ x < 256) (hy : ∀ x ∈ ys, 0 ≤ x ∧ x < 256) (h : (strOfNums xs).toList = (strOfNums ys).toList) : xs = ys := by
  rw [Lib.strOfNums_toList, Lib.strOfNums_toList] at h
  have h1 : xs.map (fun n => UInt8.ofNat n.toNat) = ys.map (fun n => UInt8.ofNat n.toNat) := h
  clear h
  induction xs generalizing ys with
  | nil => cases ys with
    | nil => rfl
    | cons y ys => simp at h1
  | cons x xs ih =>
    cases ys with
    | nil => simp at h1
    | cons y ys =>
      simp only [List.map_cons, List.cons.injEq] at h1
      obtain ⟨a1, a2⟩ := hx x (List.mem_cons_self ..)
      obtain ⟨b1, b2⟩ := hy y (List.mem_cons_self ..)
      have e := congrArg UInt8.toNat h1.1
      simp only [UInt8.toNat_ofNat'] at e
      rw [ih (fun z hz => hx z (List.mem_cons_of_mem _ hz)) (fun z hz => hy z (List.mem_cons_of_mem _ hz)) h1.2]
      congr 1
      omega

theorem SB.rs {w : World} {v : Value} {l : List Int} (h : SB w v l) : RS w v l := by
  obtain ⟨ao, cap, rfl, h1, h2, h3, h4⟩ := h
  refine ⟨ao, cap, rfl, Nat.le_trans h1 h2, fun hne => ?_⟩
  have hp : 0 < l.length := List.length_pos_iff.2 hne
  cases ao with
  | none => have := h3 rfl; omega
  | some x =>
    obtain ⟨b, o, rfl⟩ := addr_lit (h4 x rfl 0 hp)
    exact ⟨b, o, rfl, fun i hi => by have := h4 _ rfl i hi; rwa [Addr.add_lit] at this⟩

theorem bequal_any (v1 v2 : Value) (l1 l2 : List Int) (w : World) (h1 : SB w v1 l1) (h2 : SB w v2 l2) (b1 : Byt l1) (b2 : Byt l2) :
    Calls Try.prog 45 #[v1, v2] w fun e w' => e = .returned (.bool (eqB l1 l2)) ∧ w' = w := by
  have k1 := rs_convert h1.rs
  have k2 := rs_convert h2.rs
  have HJ := hide (fun q => str_inj (byt_mem b1) (byt_mem b2) q)
  obtain ⟨s1, e1⟩ : ∃ s, s = strOfNums l1 := ⟨_, rfl⟩
  obtain ⟨s2, e2⟩ : ∃ s, s = strOfNums l2 := ⟨_, rfl⟩
  rw [← e1] at k1 HJ
  rw [← e2] at k2 HJ
  obtain ⟨ao1, cap1, rfl, _⟩ := h1
  obtain ⟨ao2, cap2, rfl, _⟩ := h2
  by_cases e : l1 = l2
  · have HE : Hid (eqB l1 l2 = true) := decide_eq_true e
    have g : (s1.toList == s2.toList) = true := by rw [e1, e2, e]; simp
    clear e e1 e2 HJ b1 b2
    go_enter Try.func45, Try.ntmps45
    go_wp2
    go_ret
    rw [HE.out]
    exact ⟨rfl, rfl⟩
  · have HE : Hid (eqB l1 l2 = false) := decide_eq_false e
    have g : (s1.toList == s2.toList) = false := by
      simp only [beq_eq_false_iff_ne]
      exact fun q => e (HJ.out q)
    clear e e1 e2 HJ b1 b2
    go_enter Try.func45, Try.ntmps45
    go_wp2
    go_ret
    rw [HE.out]
    exact ⟨rfl, rfl⟩

/-- Does a row begin with another one? -/
def pfx (l p : List Int) : Bool := eqB (l.take p.length) p

theorem hasPrefix_any (v1 v2 : Value) (l p : List Int) (w : World) (h1 : SB w v1 l) (h2 : SB w v2 p) (b1 : Byt l) (b2 : Byt p) :
    Calls Try.prog 28 #[v1, v2] w fun e w' => e = .returned (.bool (pfx l p)) ∧ w' = w := by
  obtain ⟨ao1, cap1, rfl, q1, q2, q3⟩ := h1.open11
  obtain ⟨ao2, cap2, rfl, r1, r2, r3⟩ := h2.open11
  by_cases hl : p.length ≤ l.length
  · by_cases h0 : l.length = 0
    · obtain rfl : l = [] := List.eq_nil_of_length_eq_zero h0
      obtain rfl : p = [] := List.eq_nil_of_length_eq_zero (by have := hl; simp only [List.length_nil] at this; omega)
      have HX : Hid (Calls Try.prog 45 #[.slice ao1 0 cap1, .slice ao2 0 cap2] w fun e w' => e = .returned (.bool (pfx [] [])) ∧ w' = w) := bequal_any _ _ [] [] w h1 h2 b1 b2
      have HX2 : Hid (Calls Try.prog 45 #[.slice none 0 0, .slice ao2 0 cap2] w fun e w' => e = .returned (.bool (pfx [] [])) ∧ w' = w) := bequal_any _ _ [] [] w ⟨none, 0, rfl, Nat.le_refl _, Nat.zero_le _, fun _ => rfl, fun x hx => by cases hx⟩ h2 b1 b2
      clear h1 h2 q3 r3 b1 b2 hl h0
      cases ao1 with
      | none =>
        go_enter Try.func28, Try.ntmps28
        go_wp2_with fail
        first | refine HX.out.mono ?_ | refine HX2.out.mono ?_
        rintro e w1 ⟨rfl, rfl⟩
        go_wp2
        go_ret
        exact ⟨rfl, rfl⟩
      | some x =>
        go_enter Try.func28, Try.ntmps28
        go_wp2_with fail
        refine HX.out.mono ?_
        rintro e w1 ⟨rfl, rfl⟩
        go_wp2
        go_ret
        exact ⟨rfl, rfl⟩
    · obtain ⟨b, o, rfl⟩ := q3 (by omega)
      have HX : Hid (Calls Try.prog 45 #[.slice (some ⟨b, o, none⟩) p.length cap1, .slice ao2 p.length cap2] w fun e w' => e = .returned (.bool (pfx l p)) ∧ w' = w) := bequal_any _ _ _ _ w (h1.first11 hl) h2 (byt_take b1 _) b2
      have hl' : (p.length : Int) ≤ (l.length : Int) := by omega
      have hpc : p.length ≤ cap1 := by omega
      clear h1 h2 q3 r3 b1 b2
      go_enter Try.func28, Try.ntmps28
      go_wp2_with fail
      refine HX.out.mono ?_
      rintro e w1 ⟨rfl, rfl⟩
      go_wp2
      go_ret
      exact ⟨rfl, rfl⟩
  · have hl' : ¬ (p.length : Int) ≤ (l.length : Int) := by omega
    have HE : Hid (pfx l p = false) := decide_eq_false (fun h => by have := congrArg List.length h; rw [List.length_take] at this; omega)
    clear h1 h2 q3 r3 b1 b2
    go_enter Try.func28, Try.ntmps28
    go_wp2
    go_ret
    rw [HE.out]
    exact ⟨rfl, rfl⟩
end Go.Proofs.Ytjjepgkcgbbmhaa

