import Derived.Test.YtlidmhdcikcpkaaGFwr
namespace Go.Proofs.Ytlidmhdcikcpkaa
open Go.RowKit Go.Maps
set_option maxRecDepth 20000
set_option linter.unusedVariables false
set_option linter.unusedSimpArgs false

theorem quiet_drew {P : Program} {f : FuncId} {args : Array Value} {w : World} {n : Nat} {v : Value} (h : Calls P f args (w.drewN n) fun e w' => e = .returned v ∧ ∃ m, w' = (w.drewN n).drewN m) : Calls P f args (w.drewN n) fun e w'' => e = .returned v ∧ ∃ m, w'' = w.drewN m :=
  h.mono fun _ _ ⟨he, m, hm⟩ => ⟨he, n + m, by rw [hm]; simp [World.drewN, Nat.add_assoc]⟩

theorem quiet_drew2 {P : Program} {f : FuncId} {args : Array Value} {w : World} {n q : Nat} {v : Value} (h : Calls P f args (w.drewN (n + q)) fun e w' => e = .returned v ∧ ∃ m, w' = (w.drewN (n + q)).drewN m) : Calls P f args (w.drewN (n + q)) fun e w'' => e = .returned v ∧ ∃ m, w'' = w.drewN (n + m) :=
  h.mono fun _ _ ⟨he, m, hm⟩ => ⟨he, q + m, by rw [hm]; simp [World.drewN, Nat.add_assoc]⟩

theorem SB.drewN {w : World} {v : Value} {l : List Int} (h : SB w v l) (n : Nat) : SB (w.drewN n) v l := h.move fun a u hu _ => hu

set_option maxHeartbeats 8000000 in
theorem sameWrites_any (v1 v2 : Value) (R1 R2 : List We) (w : World) (h1 : SW w v1 R1) (h2 : SW w v2 R2) (he : prs R1 = prs R2) :
    Calls Try.prog 14 #[v1, v2] w fun e w' => e = .returned (.bool true) ∧ ∃ n, w' = w.drewN n := by
  have H1 := hide h1
  have H2 := hide h2
  have hlen : R1.length = R2.length := by have := congrArg List.length he; simpa [prs] using this
  obtain ⟨a1, p1, rfl, m1, m2⟩ := h1.open
  obtain ⟨a2, p2, rfl, m3, m4⟩ := h2.open
  rw [← hlen] at H2 m3 ⊢
  have HEL : Hid (∀ j, j < R1.length → (R2.getD j we0).at' = (R1.getD j we0).at' ∧ (R2.getD j we0).l = (R1.getD j we0).l) := fun j hj => by
    have e1 : (prs R1)[j]? = (prs R2)[j]? := by rw [he]
    have hj2 : j < R2.length := by omega
    simp only [prs, List.getElem?_map, List.getElem?_eq_getElem hj, List.getElem?_eq_getElem hj2, Option.map_some, Option.some.injEq, Prod.mk.injEq] at e1
    simp only [List.getD, List.getElem?_eq_getElem hj, List.getElem?_eq_getElem hj2, Option.getD_some]
    exact ⟨e1.1.symm, e1.2.symm⟩
  have HLN := hide hlen
  clear h1 h2 he hlen
  go_enter Try.func14, Try.ntmps14
  go_wp2
  go_loopw [5] (fun i wr => ∃ j n : Nat, j ≤ R1.length ∧ i = .int .i64 (j : Int) ∧ wr = w.drewN n) (fun i _ => R1.length - (intOf i).toNat)
  case atStart => exact ⟨0, 0, Nat.zero_le _, rfl, rfl⟩
  case round =>
    obtain ⟨j, n, hj, rfl, rfl⟩ := hrel
    by_cases hlt : j < R1.length
    · have hlt' : (j : Int) < (R1.length : Int) := by omega
      obtain ⟨b0, o0, a', c', hla, hbl, hdv, g0, g1, hsb, k1, k2⟩ := H1.out.row hlt
      obtain ⟨b1, o1, a'', c'', hlb, hbl1, hdv1, g2, g3, hsb1, k3, k4⟩ := H2.out.row (by have := HLN.out; omega : j < R2.length)
      obtain ⟨q1, q2⟩ := HEL.out j hlt
      rw [q1] at g2
      rw [q2] at g3 hsb1 k3
      obtain ⟨e, he⟩ : ∃ e, e = R1.getD j we0 := ⟨_, rfl⟩
      rw [← he] at hdv g0 g1 hsb k1 g2 g3 hsb1 k3
      obtain ⟨at0, dv0, l0⟩ := e
      simp only at hdv g0 g1 hsb k1 g2 g3 hsb1 k3
      subst hla hlb
      have HSM : Hid (∀ q, Calls Try.prog 20 #[.slice a' l0.length c', .slice a'' l0.length c''] (w.drewN (n + q)) fun e w' => e = .returned (.bool true) ∧ ∃ m, w' = w.drewN (n + m)) := fun q => by
        have := same_any _ _ l0 l0 (w.drewN (n + q)) (hsb.drewN _) (hsb1.drewN _)
        rw [show eqB l0 l0 = true by simp [eqB]] at this
        exact quiet_drew2 this
      clear hdv he hsb hsb1 hdv1 q1 q2
      go_wp2
      go_quiet (first | (go_at_call 20; exact HSM.out _))
      go_wp2
      go_roundw
      case rel => exact ⟨j + 1, _, by omega, by go_num, rfl⟩
      case measure => simp [intOf]; omega
    · go_wp2
      go_ret
      exact ⟨rfl, _, rfl⟩

theorem ls_get {R : List Fe} {i : Nat} (h : i < R.length) : (R.map Fe.ls).getD i #[] = (R.getD i fe0).ls := by simp [List.getD, h]
theorem fe_mem {R : List Fe} {i : Nat} (h : i < R.length) : R.getD i fe0 ∈ R := by simp [List.getD, h]

end Go.Proofs.Ytlidmhdcikcpkaa

