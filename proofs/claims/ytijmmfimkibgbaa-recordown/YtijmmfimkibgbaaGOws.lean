import Derived.Test.YtijmmfimkibgbaaGShn
import Derived.Test.YtijmmfimkibgbaaGApb
import Derived.Test.YtijmmfimkibgbaaGDsc
import Derived.Test.YtijmmfimkibgbaaGCleq
import Derived.Deep.MidRow
namespace Go.Proofs.Ytijmmfimkibgbaa
open Go.RowKit Go.Maps
set_option maxRecDepth 20000
set_option linter.unusedVariables false
set_option linter.unusedSimpArgs false

/-- Structs in boxes and lists of bytes in blocks of their own, all of them new memory. -/
structure Own (w0 W : World) (hs : List (Nat × Array Value × TypeId)) (ls : List (Nat × Nat × List Int)) : Prop where
  bel : Below w0.heap.size w0 W
  bx : ∀ (i g : Nat) (A : Array Value) (T : TypeId), hs[i]? = some (g, A, T) → W.heap[g]? = some (.cells A T (0, 0)) ∧ w0.heap.size ≤ g
  sl : ∀ (i g p : Nat) (l : List Int), ls[i]? = some (g, p, l) → OB W w0.heap.size (.slice (some ⟨g, 0, none⟩) l.length p) l
  ne : ∀ (i j g k p : Nat) (A : Array Value) (T : TypeId) (l : List Int), hs[i]? = some (g, A, T) → ls[j]? = some (k, p, l) → g ≠ k
  nn : ∀ (i j g k p q : Nat) (l m : List Int), ls[i]? = some (g, p, l) → ls[j]? = some (k, q, m) → i ≠ j → g ≠ k

theorem last_of {α : Type} {l : List α} {x y : α} {i : Nat} (h : (l ++ [x])[i]? = some y) : l[i]? = some y ∨ (i = l.length ∧ y = x) := by
  by_cases hi : i < l.length
  · rw [List.getElem?_append_left hi] at h
    exact .inl h
  · rw [List.getElem?_append_right (by omega)] at h
    right
    cases e : i - l.length with
    | zero =>
      rw [e] at h
      simp at h
      exact ⟨by omega, h.symm⟩
    | succ n =>
      rw [e] at h
      simp at h

theorem Own.low {w0 W W' : World} {hs : List (Nat × Array Value × TypeId)} {ls : List (Nat × Nat × List Int)} (h : Own w0 W hs ls) (hb : Below W.heap.size W W') : Own w0 W' hs ls :=
  ⟨h.bel.trans (hb.mono h.bel.size), fun i g A T e => ⟨(hb.block _ (Array.getElem?_eq_some_iff.1 (h.bx i g A T e).1).1).trans (h.bx i g A T e).1, (h.bx i g A T e).2⟩, fun i g p l e => (h.sl i g p l e).below hb (Nat.le_refl _), h.ne, h.nn⟩

theorem Own.start (w : World) : Own w w [] [] := ⟨Below.refl _ _, fun i g A T e => by simp at e, fun i g p l e => by simp at e, fun i j g k p A T l e => by simp at e, fun i j g k p q l m e => by simp at e⟩

theorem Own.at' {w0 W W' : World} {hs : List (Nat × Array Value × TypeId)} {ls : List (Nat × Nat × List Int)} (h : Own w0 W hs ls) (hb : Below W.heap.size W W') {g : Nat} {A : Array Value} {T : TypeId} (hg : W'.heap[g]? = some (.cells A T (0, 0))) (hl : W.heap.size ≤ g) : Own w0 W' (hs ++ [(g, A, T)]) ls := by
  have h1 := h.low hb
  refine ⟨h1.bel, ?_, h1.sl, ?_, h1.nn⟩
  · intro i g' A' T' e
    rcases last_of e with e | ⟨-, e⟩
    · exact h1.bx _ _ _ _ e
    · simp only [Prod.mk.injEq] at e
      obtain ⟨rfl, rfl, rfl⟩ := e
      exact ⟨hg, Nat.le_trans h.bel.size hl⟩
  · intro i j g' k p A' T' l e e2
    rcases last_of e with e | ⟨-, e⟩
    · exact h1.ne _ _ _ _ _ _ _ _ e e2
    · simp only [Prod.mk.injEq] at e
      obtain ⟨rfl, rfl, rfl⟩ := e
      have := ((h.sl _ _ _ _ e2).lt k rfl).2
      omega

theorem Own.box {w0 W : World} {hs : List (Nat × Array Value × TypeId)} {ls : List (Nat × Nat × List Int)} (h : Own w0 W hs ls) (A : Array Value) (T : TypeId) : Own w0 (W.alloc (.cells A T)) (hs ++ [(W.heap.size, A, T)]) ls :=
  h.at' ((Below.refl _ _).alloc (Nat.le_refl _) _) (heap_alloc_new W _) (Nat.le_refl _)

theorem Own.add {w0 W W' : World} {hs : List (Nat × Array Value × TypeId)} {ls : List (Nat × Nat × List Int)} (h : Own w0 W hs ls) (hb : Below W.heap.size W W') {g p : Nat} {l : List Int} (ho : OB W' W.heap.size (.slice (some ⟨g, 0, none⟩) l.length p) l) : Own w0 W' hs (ls ++ [(g, p, l)]) := by
  have h1 := h.low hb
  have hl := (ho.lt g rfl).1
  refine ⟨h1.bel, h1.bx, ?_, ?_, ?_⟩
  · intro i g' p' l' e
    rcases last_of e with e | ⟨-, e⟩
    · exact h1.sl _ _ _ _ e
    · simp only [Prod.mk.injEq] at e
      obtain ⟨rfl, rfl, rfl⟩ := e
      exact ho.base h.bel.size
  · intro i j g' k p' A T l' e e2
    rcases last_of e2 with e2 | ⟨-, e2⟩
    · exact h1.ne _ _ _ _ _ _ _ _ e e2
    · simp only [Prod.mk.injEq] at e2
      obtain ⟨rfl, rfl, rfl⟩ := e2
      have := (Array.getElem?_eq_some_iff.1 (h.bx _ _ _ _ e).1).1
      omega
  · intro i j g' k p' q l' m e e2 hn
    rcases last_of e with f | ⟨fi, f⟩
    · rcases last_of e2 with f2 | ⟨-, f2⟩
      · exact h1.nn _ _ _ _ _ _ _ _ f f2 hn
      · simp only [Prod.mk.injEq] at f2
        have := ((h.sl _ _ _ _ f).lt g' rfl).2
        have := f2.1
        omega
    · rcases last_of e2 with f2 | ⟨fj, f2⟩
      · simp only [Prod.mk.injEq] at f
        have := ((h.sl _ _ _ _ f2).lt k rfl).2
        have := f.1
        omega
      · omega

theorem Own.set {w0 W W' : World} {hs : List (Nat × Array Value × TypeId)} {ls : List (Nat × Nat × List Int)} (h : Own w0 W hs ls) {i g p : Nat} {l l' : List Int} (hi : ls[i]? = some (g, p, l)) (hg : W.grownBy W' (some g)) (ho : OB W' w0.heap.size (.slice (some ⟨g, 0, none⟩) l'.length p) l') : Own w0 W' hs (ls.set i (g, p, l')) := by
  have hil := (List.getElem?_eq_some_iff.1 hi).1
  have hlt := (h.sl _ _ _ _ hi).lt g rfl
  have key : ∀ (j k q : Nat) (m : List Int), (ls.set i (g, p, l'))[j]? = some (k, q, m) → (i = j ∧ k = g ∧ q = p ∧ m = l') ∨ (i ≠ j ∧ ls[j]? = some (k, q, m)) := by
    intro j k q m e
    by_cases hij : i = j
    · subst hij
      rw [List.getElem?_set_self hil] at e
      simp only [Option.some.injEq, Prod.mk.injEq] at e
      exact .inl ⟨rfl, e.1.symm, e.2.1.symm, e.2.2.symm⟩
    · rw [List.getElem?_set_ne hij] at e
      exact .inr ⟨hij, e⟩
  refine ⟨h.bel.grown hg h.bel.size (fun k hk => by simp at hk; omega), ?_, ?_, ?_, ?_⟩
  · intro j k A T e
    have h2 := h.bx j k A T e
    exact ⟨(hg.block k (Array.getElem?_eq_some_iff.1 h2.1).1 (fun e2 => h.ne _ _ _ _ _ _ _ _ e hi (by simpa using e2))).trans h2.1, h2.2⟩
  · intro j k q m e
    rcases key j k q m e with ⟨-, rfl, rfl, rfl⟩ | ⟨hn, e⟩
    · exact ho
    · have h2 := h.sl _ _ _ _ e
      exact h2.move fun b hb => hg.block b (h2.lt b hb).2 (fun e2 => by
        simp [Value.ownBlock] at hb
        exact h.nn _ _ _ _ _ _ _ _ hi e hn (by simp at e2; omega))
  · intro a j k b q A T m e e2
    rcases key j b q m e2 with ⟨-, rfl, rfl, rfl⟩ | ⟨hn, e2⟩
    · exact h.ne _ _ _ _ _ _ _ _ e hi
    · exact h.ne _ _ _ _ _ _ _ _ e e2
  · intro a j k b q r m n e e2 hn
    rcases key a k q m e with ⟨f, fk, -, -⟩ | ⟨hn1, f⟩
    · rcases key j b r n e2 with ⟨f2, -, -, -⟩ | ⟨hn2, f2⟩
      · omega
      · rw [fk]
        exact h.nn _ _ _ _ _ _ _ _ hi f2 (by omega)
    · rcases key j b r n e2 with ⟨f2, fb, -, -⟩ | ⟨hn2, f2⟩
      · rw [fb]
        exact h.nn _ _ _ _ _ _ _ _ f hi (by omega)
      · exact h.nn _ _ _ _ _ _ _ _ f f2 hn

/-- Puts that come off, and gets of what was put. -/
def Puts (f : FuncId) (args : Array Value) (L : List Int) : Prop := ∀ w, Calls Try.prog f args w fun e w' => ∃ g p, e = .returned (.tuple #[.slice (some ⟨g, 0, none⟩) L.length p, .int .i64 0]) ∧ OB w' w.heap.size (.slice (some ⟨g, 0, none⟩) L.length p) L ∧ Below w.heap.size w w' ∧ L.length ≤ p ∧ p ≤ 9223372036854775807

def Gets (f : FuncId) (L : List Int) (A : Array Value) : Prop := ∀ w v, SB w v L → Calls Try.prog f #[v, .int .i64 0] w fun e w' => e = .returned (.tuple #[.agg A, .int .i64 (L.length : Int), .int .i64 0]) ∧ Below w.heap.size w w'

theorem puts_of {f : FuncId} {args : Array Value} {I : List Itm} (hf : fitI I) (hl : 0 < (rowI I).length) (h : ∀ w, Calls Try.prog f args w fun e w' => ∃ a c, e = .returned (.tuple #[.slice a (puL I).length c, .int .i64 (puE I)]) ∧ OB w' w.heap.size (.slice a (puL I).length c) (puL I) ∧ Below w.heap.size w w') : Puts f args (rowI I) := fun w => by
  refine (h w).mono ?_
  rintro e w' ⟨a, p, rfl, ho, hb⟩
  have e1 : puL I = rowI I := if_pos hf
  have e2 : puE I = 0 := if_pos hf
  rw [e1] at ho ⊢
  rw [e2]
  obtain ⟨g, q, hv, h1, h2⟩ := OB.some ho hl
  simp only [Value.slice.injEq] at hv
  obtain ⟨rfl, -, rfl⟩ := hv
  exact ⟨g, p, rfl, ho, hb, h1, h2⟩

theorem putsC (c : Cen) (ok : c.Ok) (hf : fitI (ceI c)) : Puts 6 #[.agg c.cs] (rowI (ceI c)) := puts_of hf (by have := (rwC c hf).n; omega) (fun w => putCentral_any c ok w)
theorem putsE (x : Enr) (ok : x.Ok) (hf : fitI (enI x)) : Puts 7 #[.agg x.cs] (rowI (enI x)) := puts_of hf (by have := (rwE x hf).n; omega) (fun w => putEnd_any x ok w)
theorem putsL (l : Loc) (ok : l.Ok) (hf : fitI (loI l)) : Puts 30 #[.agg l.cs] (rowI (loI l)) := puts_of hf (by have := (rwL l hf).n; omega) (fun w => putLocal_any l ok w)

theorem getsC (c : Cen) (hf : fitI (ceI c)) : Gets 10 (rowI (ceI c)) c.cs := fun w v h => by
  have hr := rwC c hf
  have hl := hr.len
  obtain ⟨b1, b2, b3⟩ := ce_back (D := rowI (ceI c)) (k := 0) (b := []) (c := c) (Nat.zero_le _) (by simp) hf
  refine (getCentral_any v _ 0 w h hr.byt (by unfold Ok64; omega) (by omega)).mono ?_
  rintro e w' ⟨rfl, hb⟩
  have e1 : ceE (rowI (ceI c)) 0 = 0 := b1
  have e2 : ceA (rowI (ceI c)) 0 = c := b2
  rw [e1, e2, hr.plc]
  exact ⟨rfl, hb⟩
theorem getsE (x : Enr) (hf : fitI (enI x)) : Gets 33 (rowI (enI x)) x.cs := fun w v h => by
  have hr := rwE x hf
  have hl := hr.len
  obtain ⟨b1, b2, b3⟩ := en_back (D := rowI (enI x)) (k := 0) (b := []) (x := x) (Nat.zero_le _) (by simp) hf
  refine (getEnd_any v _ 0 w h hr.byt (by unfold Ok64; omega) (by omega)).mono ?_
  rintro e w' ⟨rfl, hb⟩
  have e1 : enE (rowI (enI x)) 0 = 0 := b1
  have e2 : enA (rowI (enI x)) 0 = x := b2
  rw [e1, e2, hr.plc]
  exact ⟨rfl, hb⟩
theorem getsL (l : Loc) (hf : fitI (loI l)) : Gets 34 (rowI (loI l)) l.cs := fun w v h => by
  have hr := rwL l hf
  have hl := hr.len
  obtain ⟨b1, b2, b3⟩ := lo_back (D := rowI (loI l)) (k := 0) (b := []) (l := l) (Nat.zero_le _) (by simp) hf
  refine (getLocal_any v _ 0 w h hr.byt (by unfold Ok64; omega) (by omega)).mono ?_
  rintro e w' ⟨rfl, hb⟩
  have e1 : loE (rowI (loI l)) 0 = 0 := b1
  have e2 : loA (rowI (loI l)) 0 = l := b2
  rw [e1, e2, hr.plc]
  exact ⟨rfl, hb⟩

/-- Loads of whole structs as one letter, guarded or not. -/
theorem wpList_want {ops : Array Oper} {rest : List Oper} {o : Oper} {a : Act} {w : World} {Q : Exit → Act → World → Prop} (hw : Region.wanted o (yielded ops a.tmps) = true)
    (h : ∀ K : Act → World → Prop, (∀ a w, wpList Try.prog ops Q rest a w → K a w) → o.wp Try.prog a w K Q) : wpList Try.prog ops Q (o :: rest) a w :=
  wpList_step fun K hK => by rw [if_pos hw]; exact h K hK

theorem wpList_gC {ops : Array Oper} {rest : List Oper} {a : Act} {w : World} {Q : Exit → Act → World → Prop} {dst : Option Tmp} {x : Operand} {ty : TypeId} {pos : String} {after : Array Edge} {gd : Option (Nat × Bool)} (g : Nat) (A : Array Value) (hs : A.size = 16)
    (hw : Region.wanted { dst := dst, op := .load 26 x, type := ty, pos := pos, after := after, guard := gd } (yielded ops a.tmps) = true)
    (hx : a.eval x = .pointer (some ⟨g, 0, none⟩)) (hg : w.heap[g]? = some (.cells A 26 (0, 0))) (h : wpList Try.prog ops Q rest (a.put dst (.agg A)) w) :
    wpList Try.prog ops Q ({ dst := dst, op := .load 26 x, type := ty, pos := pos, after := after, guard := gd } :: rest) a w :=
  wpList_want hw fun _ hK => wp_load_row 26 x rfl g hx 26 A (0, 0) _ hg Try.underlying26 rfl (by rw [hs]; exact rzC) (hK _ _ h)

theorem wpList_gE {ops : Array Oper} {rest : List Oper} {a : Act} {w : World} {Q : Exit → Act → World → Prop} {dst : Option Tmp} {x : Operand} {ty : TypeId} {pos : String} {after : Array Edge} {gd : Option (Nat × Bool)} (g : Nat) (A : Array Value) (hs : A.size = 7)
    (hw : Region.wanted { dst := dst, op := .load 28 x, type := ty, pos := pos, after := after, guard := gd } (yielded ops a.tmps) = true)
    (hx : a.eval x = .pointer (some ⟨g, 0, none⟩)) (hg : w.heap[g]? = some (.cells A 28 (0, 0))) (h : wpList Try.prog ops Q rest (a.put dst (.agg A)) w) :
    wpList Try.prog ops Q ({ dst := dst, op := .load 28 x, type := ty, pos := pos, after := after, guard := gd } :: rest) a w :=
  wpList_want hw fun _ hK => wp_load_row 28 x rfl g hx 28 A (0, 0) _ hg Try.underlying28 rfl (by rw [hs]; exact rzE) (hK _ _ h)

theorem wpList_gM {ops : Array Oper} {rest : List Oper} {a : Act} {w : World} {Q : Exit → Act → World → Prop} {dst : Option Tmp} {x : Operand} {ty : TypeId} {pos : String} {after : Array Edge} {gd : Option (Nat × Bool)} (g : Nat) (A : Array Value) (hs : A.size = 10)
    (hw : Region.wanted { dst := dst, op := .load 24 x, type := ty, pos := pos, after := after, guard := gd } (yielded ops a.tmps) = true)
    (hx : a.eval x = .pointer (some ⟨g, 0, none⟩)) (hr : w.rangeAt g 0 A.toList) (h : wpList Try.prog ops Q rest (a.put dst (.agg A)) w) :
    wpList Try.prog ops Q ({ dst := dst, op := .load 24 x, type := ty, pos := pos, after := after, guard := gd } :: rest) a w :=
  wpList_want hw fun _ hK => wp_load_mid 24 x rfl g 0 hx A.toList _ hr Try.underlying24 rfl (by rw [Array.length_toList, hs]; exact rzL) (by rw [Array.toArray_toList]; exact hK _ _ h)

theorem range_of {w : World} {g : Nat} {A : Array Value} {t : TypeId} (h : w.heap[g]? = some (.cells A t (0, 0))) : w.rangeAt g 0 A.toList := by
  intro j u hu
  rw [Nat.zero_add]
  simp only [World.cell?, h]
  simpa using hu

theorem cen_loc (c : Cen) {w : World} {g : Nat} {t : TypeId} (h : w.heap[g]? = some (.cells c.cs t (0, 0))) : w.rangeAt g 0 c.loc.cs.toList := by
  intro j u hu
  refine range_of h j u ?_
  have hj : j < c.loc.cs.toList.length := (List.getElem?_eq_some_iff.1 hu).1
  have e : c.cs.toList = c.loc.cs.toList ++ [.int .i64 c.made, .int .i64 c.disk, .int .i64 c.internal, .int .i64 c.external, .int .i64 c.at', .string c.comment] := rfl
  rw [e, List.getElem?_append_left hj]
  exact hu

set_option maxHeartbeats 4000000 in
theorem loc_eqO (e0 e1 e2 e3 e4 e5 e6 e7 : Int) (e8 e9 : ByteArray) (W : World) :
    (Op.equalIn 10000 24 (.agg #[.int .i64 e0, .int .i64 e1, .int .i64 e2, .int .i64 e3, .int .i64 e4, .int .u32 e5, .int .i64 e6, .int .i64 e7, .string e8, .string e9]) (.agg #[.int .i64 e0, .int .i64 e1, .int .i64 e2, .int .i64 e3, .int .i64 e4, .int .u32 e5, .int .i64 e6, .int .i64 e7, .string e8, .string e9])).run Try.prog W = .ok true W := by
  go_simp

set_option maxHeartbeats 4000000 in
theorem enr_eqO (e0 e1 e2 e3 e4 e5 : Int) (e6 : ByteArray) (W : World) :
    (Op.equalIn 10000 28 (.agg #[.int .i64 e0, .int .i64 e1, .int .i64 e2, .int .i64 e3, .int .i64 e4, .int .i64 e5, .string e6]) (.agg #[.int .i64 e0, .int .i64 e1, .int .i64 e2, .int .i64 e3, .int .i64 e4, .int .i64 e5, .string e6])).run Try.prog W = .ok true W := by
  go_simp

theorem eqLo (l : Loc) (W : World) : (Op.equalIn 10000 24 (.agg l.cs) (.agg l.cs)).run Try.prog W = .ok true W := loc_eqO _ _ _ _ _ _ _ _ _ _ W
theorem eqCo (l : Cen) (W : World) : (Op.equalIn 10000 26 (.agg l.cs) (.agg l.cs)).run Try.prog W = .ok true W := cen_eq _ _ _ _ _ _ _ _ _ _ _ _ _ _ _ _ W
theorem eqEo (l : Enr) (W : World) : (Op.equalIn 10000 28 (.agg l.cs) (.agg l.cs)).run Try.prog W = .ok true W := enr_eqO _ _ _ _ _ _ _ W

/-- A list under way: k bytes are written. -/
theorem OB.mark {w : World} {base g p k : Nat} {A : List Int} (m : Int) (h : OB w base (.slice (Option.some ⟨g, 0, none⟩) A.length p) (List.replicate k m ++ A.drop k)) (hk : k < A.length) :
    OB (w.setCell ⟨g, k, none⟩ (.int .u8 m)) base (.slice (Option.some ⟨g, 0, none⟩) A.length p) (List.replicate (k + 1) m ++ A.drop (k + 1)) ∧ (∃ u, w.cell? ⟨g, k, none⟩ = Option.some (.int .u8 u)) ∧ w.frozen? ⟨g, k, none⟩ = false := by
  have hlen : (List.replicate k m ++ A.drop k).length = A.length := by simp; omega
  rw [← hlen] at h
  obtain ⟨d0, df⟩ := h.cellAt (j := k) (by rw [hlen]; omega)
  have hs := h.setAt (j := k) m
  rw [set_mid m A k hk, hlen] at hs
  exact ⟨hs, ⟨_, d0⟩, df⟩

theorem set_over {A B : List Int} {k : Nat} (hl : B.length = A.length) (hk : k < A.length) : (B.take k ++ A.drop k).set k (B.getD k 0) = B.take (k + 1) ++ A.drop (k + 1) := by
  have e1 : (B.take k).length = k := by rw [List.length_take]; omega
  have e2 : B.take (k + 1) = B.take k ++ [B.getD k 0] := by
    rw [List.take_add_one, List.getElem?_eq_getElem (by omega)]
    simp [List.getD, List.getElem?_eq_getElem (show k < B.length by omega)]
  rw [List.set_append_right _ _ (by omega), e1, Nat.sub_self, List.drop_eq_getElem_cons hk, List.set_cons_zero, e2, List.append_assoc]
  rfl

theorem OB.over {w : World} {base g p k : Nat} {A B : List Int} (hl : B.length = A.length) (h : OB w base (.slice (Option.some ⟨g, 0, none⟩) A.length p) (B.take k ++ A.drop k)) (hk : k < A.length) :
    OB (w.setCell ⟨g, k, none⟩ (.int .u8 (B.getD k 0))) base (.slice (Option.some ⟨g, 0, none⟩) A.length p) (B.take (k + 1) ++ A.drop (k + 1)) ∧ (∃ u, w.cell? ⟨g, k, none⟩ = Option.some (.int .u8 u)) ∧ w.frozen? ⟨g, k, none⟩ = false := by
  have hlen : (B.take k ++ A.drop k).length = A.length := by simp; omega
  rw [← hlen] at h
  obtain ⟨d0, df⟩ := h.cellAt (j := k) (by rw [hlen]; omega)
  have hs := h.setAt (j := k) (B.getD k 0)
  rw [set_over hl hk, hlen] at hs
  exact ⟨hs, ⟨_, d0⟩, df⟩
end Go.Proofs.Ytijmmfimkibgbaa

