import Derived.Test.YtjjepgkcgbbmhaaGVpt
namespace Go.Proofs.Ytjjepgkcgbbmhaa
open Go.RowKit Go.Maps
set_option maxRecDepth 20000
set_option linter.unusedVariables false

theorem strL_get (s : ByteArray) (k : Nat) (hk : k < s.size) : ((s[k]'hk).toNat : Int) = (strL s).getD k 0 := by
  unfold strL
  have h1 : k < s.data.toList.length := by rw [Array.length_toList]; exact hk
  rw [List.getD_eq_getElem?_getD, List.getElem?_map, List.getElem?_eq_getElem h1]
  simp
  rfl

set_option maxHeartbeats 1000000 in
theorem vtext_any {w : World} {base : Nat} {v : Value} {l : List Int} (h : OB w base v l) (hB : base ≤ w.heap.size) (s : ByteArray) (hs : s.size ≤ 65535) (hl : l.length ≤ 1000000) :
    Calls Try.prog 43 #[v, .string s] w fun e w' => ∃ a c, e = .returned (.slice a (l ++ strL s).length c) ∧ OB w' base (.slice a (l ++ strL s).length c) (l ++ strL s) ∧ Below base w w' ∧ Gro w v w' (.slice a (l ++ strL s).length c) := by
  obtain ⟨a0, c0, rfl⟩ := h.shape
  have H := hide h
  have HBB := hide hB
  clear h
  go_enter Try.func43, Try.ntmps43
  go_wp2
  go_loopw [0, 5] (fun y i wr => ∃ (k : Nat) (a : Option Addr) (c L : Nat), k ≤ s.size ∧ i = .int .i64 k ∧ y = .slice a L c ∧ L ≤ 1065535 ∧ Hid (L = (l ++ (strL s).take k).length ∧ OB wr base (.slice a L c) (l ++ (strL s).take k)) ∧ Hid (Below base w wr ∧ Gro w (.slice a0 l.length c0) wr (.slice a L c))) (fun _ i _ => s.size - (intOf i).toNat)
  case atStart => exact ⟨0, a0, c0, l.length, Nat.zero_le _, rfl, rfl, by omega, ⟨by simp, by simpa using H.out⟩, Below.refl _ _, Gro.refl _ _⟩
  case round =>
    obtain ⟨k, a, c, L, hk, rfl, rfl, hL, HO, HB⟩ := hrel
    by_cases hlt : k < s.size
    · obtain ⟨J, HJ⟩ : ∃ J, Hid (J = l ++ (strL s).take k) := ⟨_, rfl⟩
      rw [← HJ.out] at HO
      obtain ⟨hLJ, hOJ⟩ := HO.out
      have HOJ := hide hOJ
      subst hLJ
      obtain ⟨b, hb, HBt⟩ : ∃ b : Int, ((s[k]'hlt).toNat : Int) = b ∧ Hid (b = (strL s).getD k 0) := ⟨_, rfl, strL_get s k hlt⟩
      have HLn : Hid (J.length + [b].length ≤ 140737488355328) := by show _ ≤ _; simp; omega
      have HBs : Hid (base ≤ (wr.alloc (.cells #[.int .u8 b] 5)).heap.size) := by show _ ≤ _; have := HB.out.1.size; have := HBB.out; rw [size_alloc']; omega
      clear HO hOJ
      go_wp2_with (at_builtin; refine wpList_app rfl _ _ 22 rfl base _ _ J [b] rfl (HOJ.out.alloc _) rfl (built_src wr [b]) HLn.out HBs.out ?_)
      intro v' w1 ho hgr
      have HN : Hid (J ++ [b] = l ++ (strL s).take (k + 1)) := by show _ = _; rw [HJ.out, strL_snoc s k hlt, HBt.out, List.append_assoc]
      have ho' : OB w1 base v' (l ++ (strL s).take (k + 1)) := by rw [← HN.out]; exact ho
      have hb2 := And.intro (grown_to HB.out.1 HBB.out HOJ.out hgr) (gro_to HB.out.2 hgr HB.out.1.size)
      obtain ⟨av, cv, rfl⟩ := ho'.shape
      have HLL : Hid ((l ++ (strL s).take (k + 1)).length ≤ 1065535) := by show _ ≤ _; rw [List.length_append, List.length_take, length_strL]; omega
      obtain ⟨M, hM⟩ : ∃ M, M = (l ++ (strL s).take (k + 1)).length := ⟨_, rfl⟩
      rw [← hM] at ho' HLL hb2
      have HM := hide hM
      have HO2 := hide ho'
      have HB2 := hide hb2
      rw [← hM]
      clear ho ho' hb2 hgr hM hb
      go_wp2
      go_roundw
      case rel => exact ⟨k + 1, av, cv, M, by omega, by go_num, rfl, HLL.out, ⟨HM.out, HO2.out⟩, HB2.out⟩
      case measure => simp [intOf]; omega
    · have e : k = s.size := by omega
      have HO2 := HO.out
      rw [e, List.take_of_length_le (by rw [length_strL]; exact Nat.le_refl _)] at HO2
      have HO3 := hide HO2
      clear HO2 HO
      go_wp2
      go_ret
      refine ⟨a, c, by rw [← HO3.out.1]; rfl, ?_, HB.out.1, ?_⟩
      · rw [← HO3.out.1]
        exact HO3.out.2
      · rw [← HO3.out.1]
        exact HB.out.2

/-- The document's row under way, and a box that stays. -/
structure Dx (c : Nat) (o : Obj) (base : Nat) (w0 : World) (v0 : Value) (w : World) (a : Option Addr) (cp n : Nat) (l : List Int) : Prop where
  box0 : w0.heap[c]? = some o
  cb : v0.ownBlock ≠ some c
  len : n = l.length
  ob : OB w base (.slice a n cp) l
  bel : Below base w0 w
  b0 : base ≤ w0.heap.size
  gro : Gro w0 v0 w (.slice a n cp)

theorem Dx.box {c : Nat} {o : Obj} {base : Nat} {w0 w : World} {v0 : Value} {a : Option Addr} {cp n : Nat} {l : List Int} (h : Dx c o base w0 v0 w a cp n l) : w.heap[c]? = some o :=
  (h.gro.1 c (Array.getElem?_eq_some_iff.1 h.box0).1 h.cb).trans h.box0

theorem Dx.step {c : Nat} {o : Obj} {base : Nat} {w0 w w' : World} {v0 : Value} {a a' : Option Addr} {cp cp' n : Nat} {l l' : List Int} (h : Dx c o base w0 v0 w a cp n l) (hb : Below base w w') (ho : OB w' base (.slice a' l'.length cp') l') (hg : Gro w (.slice a n cp) w' (.slice a' l'.length cp')) : Dx c o base w0 v0 w' a' cp' l'.length l' :=
  ⟨h.box0, h.cb, rfl, ho, h.bel.trans hb, h.b0, h.gro.trans hg h.bel.size⟩

theorem Dx.nil {c : Nat} {o : Obj} {w : World} (h : w.heap[c]? = some o) : Dx c o w.heap.size w (.slice none 0 0) w none 0 0 [] :=
  ⟨h, by simp [Value.ownBlock], rfl, World.ownsRow_nil _ _ _ _, Below.refl _ _, Nat.le_refl _, Gro.refl _ _⟩

/-- A box of one's own beside the row. -/
theorem Dx.inner {c : Nat} {o : Obj} {base : Nat} {w0 w : World} {v0 : Value} {a : Option Addr} {cp n : Nat} {l : List Int} (h : Dx c o base w0 v0 w a cp n l) (o' : Obj) : Dx w.heap.size o' base (w.alloc o') (.slice a n cp) (w.alloc o') a cp n l := by
  refine ⟨heap_alloc_new w o', fun e => ?_, h.len, h.ob.alloc _, Below.refl _ _, by rw [size_alloc']; have := h.b0; have := h.bel.size; omega, Gro.refl _ _⟩
  have := (h.ob.lt _ e).2
  omega

theorem Dx.outer {c : Nat} {o o' : Obj} {base : Nat} {w0 w w' : World} {v0 : Value} {a a' : Option Addr} {cp cp' n n' : Nat} {l l' : List Int} (h : Dx c o base w0 v0 w a cp n l) (g : Dx w.heap.size o' base (w.alloc o') (.slice a n cp) w' a' cp' n' l') : Dx c o base w0 v0 w' a' cp' n' l' := by
  have hl := g.len
  subst hl
  exact h.step (((Below.refl _ _).alloc (by have := h.b0; have := h.bel.size; omega) o').trans g.bel) g.ob (gro_alloc g.gro)

theorem dput_any {c : Nat} {o : Obj} {base : Nat} {w0 w : World} {v0 : Value} {a : Option Addr} {cp n : Nat} {l : List Int} (h : Dx c o base w0 v0 w a cp n l) (x : Int) (k : Nat) (hx0 : 0 ≤ x) (hx1 : x ≤ 9223372036854775807) (hk : k ≤ 4) (hl : n ≤ 1000000) :
    Calls Try.prog 39 #[.slice a n cp, .int .i64 x, .int .i64 (k : Int)] w fun e w' => ∃ a' cp', e = .returned (.slice a' (n + k) cp') ∧ Dx c o base w0 v0 w' a' cp' (n + k) (l ++ bytesLE x k) := by
  have hn := h.len
  refine (vput_any h.ob (Nat.le_trans h.b0 h.bel.size) x k hx0 hx1 hk (by omega)).mono ?_
  rintro e w' ⟨a', cp', rfl, ho, hb, hg⟩
  have e1 : (l ++ bytesLE x k).length = n + k := by rw [List.length_append, length_bytesLE, hn]
  have := h.step hb ho hg
  rw [e1] at this
  exact ⟨a', cp', by rw [e1], this⟩

theorem dtext_any {c : Nat} {o : Obj} {base : Nat} {w0 w : World} {v0 : Value} {a : Option Addr} {cp n : Nat} {l : List Int} (h : Dx c o base w0 v0 w a cp n l) (s : ByteArray) (hs : s.size ≤ 65535) (hl : n ≤ 1000000) :
    Calls Try.prog 43 #[.slice a n cp, .string s] w fun e w' => ∃ a' cp', e = .returned (.slice a' (n + s.size) cp') ∧ Dx c o base w0 v0 w' a' cp' (n + s.size) (l ++ strL s) := by
  have hn := h.len
  refine (vtext_any h.ob (Nat.le_trans h.b0 h.bel.size) s hs (by omega)).mono ?_
  rintro e w' ⟨a', cp', rfl, ho, hb, hg⟩
  have e1 : (l ++ strL s).length = n + s.size := by rw [List.length_append, length_strL, hn]
  have := h.step hb ho hg
  rw [e1] at this
  exact ⟨a', cp', by rw [e1], this⟩
end Go.Proofs.Ytjjepgkcgbbmhaa

