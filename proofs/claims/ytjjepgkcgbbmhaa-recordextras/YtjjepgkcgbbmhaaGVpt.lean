import Derived.Test.YtjjepgkcgbbmhaaGRe
namespace Go.Proofs.Ytjjepgkcgbbmhaa
open Go.RowKit Go.Maps
set_option maxRecDepth 20000
set_option linter.unusedVariables false

/-- A row that is owned, behind a growth. -/
theorem grown_to {base : Nat} {w0 wr w1 : World} {v v' : Value} {l : List Int} {o : Obj} (hb : Below base w0 wr) (hB : base ≤ w0.heap.size) (ho : OB wr base v l) (hg : Grew (wr.alloc o) w1 v v') : Below base w0 w1 :=
  (hb.alloc (Nat.le_trans hB hb.size) o).grown hg.by (by rw [size_alloc']; have := hb.size; omega) (fun x hx => (ho.lt x hx).1)

/-- Only the row's own block has turned, and new blocks have come. -/
def Gro (w : World) (v : Value) (w' : World) (v' : Value) : Prop :=
  (∀ k, k < w.heap.size → v.ownBlock ≠ some k → w'.heap[k]? = w.heap[k]?) ∧ ∀ k, v'.ownBlock = some k → v.ownBlock = some k ∨ w.heap.size ≤ k

theorem Gro.refl (w : World) (v : Value) : Gro w v w v := ⟨fun _ _ _ => rfl, fun _ h => .inl h⟩

theorem Gro.trans {w w' w'' : World} {v v' v'' : Value} (h : Gro w v w' v') (g : Gro w' v' w'' v'') (hs : w.heap.size ≤ w'.heap.size) : Gro w v w'' v'' := by
  refine ⟨fun k hk hn => ?_, fun k hk => ?_⟩
  · rw [g.1 k (Nat.lt_of_lt_of_le hk hs) (fun e => by
      rcases h.2 k e with e | e
      · exact hn e
      · omega), h.1 k hk hn]
  · rcases g.2 k hk with e | e
    · exact h.2 k e
    · exact .inr (Nat.le_trans hs e)

theorem gro_to {w0 wr w1 : World} {v0 v v' : Value} {o : Obj} (h : Gro w0 v0 wr v) (hg : Grew (wr.alloc o) w1 v v') (hs : w0.heap.size ≤ wr.heap.size) : Gro w0 v0 w1 v' := by
  refine h.trans ⟨fun k hk hn => ?_, fun k hk => ?_⟩ hs
  · rw [hg.by.block k (by rw [size_alloc']; omega) (fun e => hn e.symm), Below.heap_alloc wr o k hk]
  · rcases hg.at with e | e
    · rw [hk, size_alloc'] at e
      simp only [Option.some.injEq] at e
      exact .inr (by omega)
    · exact .inl (e ▸ hk)

theorem gro_alloc {w w' : World} {v v' : Value} {o : Obj} (h : Gro (w.alloc o) v w' v') : Gro w v w' v' := by
  refine ⟨fun k hk hn => ?_, fun k hk => ?_⟩
  · rw [h.1 k (by rw [size_alloc']; omega) hn, Below.heap_alloc w o k hk]
  · rcases h.2 k hk with e | e
    · exact .inl e
    · rw [size_alloc'] at e; exact .inr (by omega)

set_option maxHeartbeats 1000000 in
theorem vput_any {w : World} {base : Nat} {v : Value} {l : List Int} (h : OB w base v l) (hB : base ≤ w.heap.size) (x : Int) (n : Nat) (hx0 : 0 ≤ x) (hx1 : x ≤ 9223372036854775807) (hn : n ≤ 4) (hl : l.length ≤ 1000000) :
    Calls Try.prog 39 #[v, .int .i64 x, .int .i64 (n : Int)] w fun e w' => ∃ a c, e = .returned (.slice a (l ++ bytesLE x n).length c) ∧ OB w' base (.slice a (l ++ bytesLE x n).length c) (l ++ bytesLE x n) ∧ Below base w w' ∧ Gro w v w' (.slice a (l ++ bytesLE x n).length c) := by
  obtain ⟨a0, c0, rfl⟩ := h.shape
  have H := hide h
  have HBB := hide hB
  clear h
  go_enter Try.func39, Try.ntmps39
  go_wp2
  go_loopw [0, 1, 7] (fun y z i wr => ∃ (k : Nat) (q : Int) (a : Option Addr) (c L : Nat), k ≤ n ∧ i = .int .i64 k ∧ z = .int .i64 q ∧ y = .slice a L c ∧ 0 ≤ q ∧ q ≤ 9223372036854775807 ∧ L ≤ 1000004 ∧ Hid (q = x / 256 ^ k) ∧ Hid (L = (l ++ bytesLE x k).length ∧ OB wr base (.slice a L c) (l ++ bytesLE x k)) ∧ Hid (Below base w wr ∧ Gro w (.slice a0 l.length c0) wr (.slice a L c))) (fun _ _ i _ => n - (intOf i).toNat)
  case atStart => exact ⟨0, x, a0, c0, l.length, Nat.zero_le _, rfl, rfl, rfl, hx0, hx1, by omega, by show _ = _; simp, ⟨by simp [bytesLE], by simpa [bytesLE] using H.out⟩, Below.refl _ _, Gro.refl _ _⟩
  case round =>
    obtain ⟨k, q, a, c, L, hk, rfl, rfl, rfl, hq0, hq1, hL, HQ, HO, HB⟩ := hrel
    by_cases hlt : k < n
    · have hm0 : 0 ≤ q % 256 := by omega
      have hm1 : q % 256 ≤ 255 := by omega
      have hwu : IntKind.u8.wrap (q % 256) = q % 256 := by rw [IntKind.wrap_u8]; omega
      obtain ⟨J, HJ⟩ : ∃ J, Hid (J = l ++ bytesLE x k) := ⟨_, rfl⟩
      rw [← HJ.out] at HO
      obtain ⟨hLJ, hOJ⟩ := HO.out
      have HOJ := hide hOJ
      subst hLJ
      have HLn : Hid (J.length + [q % 256].length ≤ 140737488355328) := by show _ ≤ _; simp; omega
      have HBs : Hid (base ≤ (wr.alloc (.cells #[.int .u8 (q % 256)] 5)).heap.size) := by show _ ≤ _; have := HB.out.1.size; have := HBB.out; rw [size_alloc']; omega
      clear HO hOJ
      go_wp2_with (at_builtin; refine wpList_app rfl _ _ 22 rfl base _ _ J [q % 256] rfl (HOJ.out.alloc _) rfl (built_src wr [q % 256]) HLn.out HBs.out ?_)
      intro v' w1 ho hgr
      have HN : Hid (J ++ [q % 256] = l ++ bytesLE x (k + 1)) := by show _ = _; rw [HJ.out, bytesLE_snoc, HQ.out, List.append_assoc]
      have ho' : OB w1 base v' (l ++ bytesLE x (k + 1)) := by rw [← HN.out]; exact ho
      have hb := And.intro (grown_to HB.out.1 HBB.out HOJ.out hgr) (gro_to HB.out.2 hgr HB.out.1.size)
      obtain ⟨av, cv, rfl⟩ := ho'.shape
      have HLL : Hid ((l ++ bytesLE x (k + 1)).length ≤ 1000004) := by show _ ≤ _; rw [List.length_append, length_bytesLE]; omega
      obtain ⟨M, hM⟩ : ∃ M, M = (l ++ bytesLE x (k + 1)).length := ⟨_, rfl⟩
      rw [← hM] at ho' HLL hb
      have HM := hide hM
      have HO2 := hide ho'
      have HB2 := hide hb
      have HQ2 : Hid (q / 256 = x / 256 ^ (k + 1)) := by show _ = _; rw [HQ.out, Int.pow_succ, Int.ediv_ediv_of_nonneg (Int.pow_nonneg (by omega))]
      rw [← hM]
      clear ho ho' hb hgr hM
      go_wp2
      go_roundw
      case rel => exact ⟨k + 1, q / 256, av, cv, M, by omega, by go_num, rfl, rfl, by omega, by omega, HLL.out, HQ2.out, ⟨HM.out, HO2.out⟩, HB2.out⟩
      case measure => simp [intOf]; omega
    · have e : k = n := by omega
      have HO2 := HO.out
      rw [e] at HO2
      have HO3 := hide HO2
      clear HO2 HO
      go_wp2
      go_ret
      refine ⟨a, c, by rw [← HO3.out.1]; rfl, ?_, HB.out.1, ?_⟩
      · rw [← HO3.out.1]
        exact HO3.out.2
      · rw [← HO3.out.1]
        exact HB.out.2

theorem strL_snoc (s : ByteArray) (k : Nat) (hk : k < s.size) : (strL s).take (k + 1) = (strL s).take k ++ [(strL s).getD k 0] := by
  have h : k < (strL s).length := by rw [length_strL]; exact hk
  rw [List.take_succ_eq_append_getElem h]
  simp [List.getD, h]

def w16 (v : Int) : Bool := decide (¬ wide v 2)
def w32 (v : Int) : Bool := decide (¬ wide v 4)

theorem vis32_any (v : Int) (w : World) : Calls Try.prog 38 #[.int .i64 v] w fun e w' => e = .returned (.bool (w32 v)) ∧ w' = w := by
  by_cases h0 : 0 ≤ v
  · by_cases h1 : v ≤ 4294967295
    · have HE : Hid (w32 v = true) := decide_eq_true (fun h => by unfold wide at h; omega)
      go_enter Try.func38, Try.ntmps38
      go_wp2
      go_ret
      rw [HE.out]
      exact ⟨rfl, rfl⟩
    · have HE : Hid (w32 v = false) := decide_eq_false (fun h => h (by unfold wide; omega))
      go_enter Try.func38, Try.ntmps38
      go_wp2
      go_ret
      rw [HE.out]
      exact ⟨rfl, rfl⟩
  · have HE : Hid (w32 v = false) := decide_eq_false (fun h => h (by unfold wide; omega))
    go_enter Try.func38, Try.ntmps38
    go_wp2
    go_ret
    rw [HE.out]
    exact ⟨rfl, rfl⟩

theorem vis16_any (v : Int) (w : World) : Calls Try.prog 42 #[.int .i64 v] w fun e w' => e = .returned (.bool (w16 v)) ∧ w' = w := by
  by_cases h0 : 0 ≤ v
  · by_cases h1 : v ≤ 65535
    · have HE : Hid (w16 v = true) := decide_eq_true (fun h => by unfold wide at h; omega)
      go_enter Try.func42, Try.ntmps42
      go_wp2
      go_ret
      rw [HE.out]
      exact ⟨rfl, rfl⟩
    · have HE : Hid (w16 v = false) := decide_eq_false (fun h => h (by unfold wide; omega))
      go_enter Try.func42, Try.ntmps42
      go_wp2
      go_ret
      rw [HE.out]
      exact ⟨rfl, rfl⟩
  · have HE : Hid (w16 v = false) := decide_eq_false (fun h => h (by unfold wide; omega))
    go_enter Try.func42, Try.ntmps42
    go_wp2
    go_ret
    rw [HE.out]
    exact ⟨rfl, rfl⟩
end Go.Proofs.Ytjjepgkcgbbmhaa

