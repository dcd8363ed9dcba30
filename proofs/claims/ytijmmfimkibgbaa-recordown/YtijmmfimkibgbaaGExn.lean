import Derived.Test.YtijmmfimkibgbaaGSrw
import Derived.Test.YtijmmfimkibgbaaGAppL
import Derived.Test.YtijmmfimkibgbaaGSt
import Derived.Deep.MidRow
import Derived.Laws.IdiomStrings
namespace Go.Proofs.Ytijmmfimkibgbaa
open Go.RowKit Go.Maps
set_option maxRecDepth 20000
set_option linter.unusedVariables false
set_option linter.unusedSimpArgs false

/-- An extra field: its tag, its data. -/
abbrev Xf := Int × ByteArray
def xf0 : Xf := (0, ⟨#[]⟩)

def csX (r : Xf) : Array Value := #[.int .i64 r.1, .string r.2]

def fx2 (R : List Xf) : List Value := R.flatMap fun r => [.int .i64 r.1, .string r.2]

theorem fx2_len (R : List Xf) : (fx2 R).length = R.length * 2 := by
  induction R with
  | nil => rfl
  | cons a r ih => unfold fx2 at ih ⊢; rw [List.flatMap_cons, List.length_append, ih]; simp; omega

theorem fx2_get {R : List Xf} {i : Nat} (h : i < R.length) : (fx2 R)[i * 2]? = some (.int .i64 (R.getD i xf0).1) ∧ (fx2 R)[i * 2 + 1]? = some (.string (R.getD i xf0).2) := by
  induction R generalizing i with
  | nil => simp at h
  | cons a r ih =>
    cases i with
    | zero => exact ⟨rfl, rfl⟩
    | succ i =>
      have := ih (i := i) (by simpa using h)
      have e : fx2 (a :: r) = .int .i64 a.1 :: .string a.2 :: fx2 r := rfl
      rw [e, show (i + 1) * 2 = i * 2 + 1 + 1 by omega, show i * 2 + 1 + 1 + 1 = (i * 2 + 1) + 1 + 1 by omega]
      simp only [List.getElem?_cons_succ]
      exact this

theorem fx2_snoc (R : List Xf) (p : Xf) : fx2 (R ++ [p]) = fx2 R ++ [.int .i64 p.1, .string p.2] := by simp [fx2]
theorem fx2_app (R S : List Xf) : fx2 (R ++ S) = fx2 R ++ fx2 S := by simp [fx2]

theorem csX_get {R : List Xf} {i : Nat} (h : i < R.length) : (R.map csX).getD i #[] = csX (R.getD i xf0) := by simp [List.getD, h]

/-- A row of fields of one's own. -/
def OX (w : World) (base : Nat) (v : Value) (R : List Xf) : Prop := w.ownsRow base 67 2 v R.length (fx2 R)

theorem xown_move {w w' : World} {base : Nat} {e : TypeId} {size : Nat} {v : Value} {n : Nat} {xs : List Value} (h : w.ownsRow base e size v n xs) (hb : ∀ k, v.ownBlock = some k → w'.heap[k]? = w.heap[k]?) : w'.ownsRow base e size v n xs := by
  refine ⟨h.1, ?_⟩
  rcases h.2 with h2 | ⟨g, cap, cur, rfl, h1, h2, r⟩
  · exact .inl h2
  · exact .inr ⟨g, cap, cur, rfl, h1, (hb g rfl).trans h2, r⟩

theorem OX.lt {w : World} {base : Nat} {v : Value} {R : List Xf} (h : OX w base v R) : ∀ k, v.ownBlock = some k → base ≤ k ∧ k < w.heap.size := World.ownsRow.lt h
theorem OX.below {w w' : World} {base B : Nat} {v : Value} {R : List Xf} (h : OX w base v R) (hb : Below B w w') (hB : w.heap.size ≤ B) : OX w' base v R := xown_move h fun k hk => hb.block k (Nat.lt_of_lt_of_le (h.lt k hk).2 hB)
theorem OX.alloc {w : World} {base : Nat} {v : Value} {R : List Xf} (h : OX w base v R) (o : Obj) : OX (w.alloc o) base v R := xown_move h fun k hk => Below.heap_alloc w o k (h.lt k hk).2
theorem OX.base {w : World} {base base' : Nat} {v : Value} {R : List Xf} (h : OX w base v R) (hb : base' ≤ base) : OX w base' v R := by
  refine ⟨h.1, ?_⟩
  rcases h.2 with h2 | ⟨g, cap, cur, rfl, h1, r⟩
  · exact .inl h2
  · exact .inr ⟨g, cap, cur, rfl, Nat.le_trans hb h1, r⟩

theorem OX.shape {w : World} {base : Nat} {v : Value} {R : List Xf} (h : OX w base v R) : ∃ a c, v = .slice a R.length c ∧ R.length ≤ c ∧ c ≤ 9223372036854775807 := by
  rcases h.2 with ⟨rfl, h0⟩ | ⟨g, cap, cur, rfl, _, _, h3, h4, _⟩
  · exact ⟨none, 0, by rw [h0], by omega, by omega⟩
  · unfold maxLen at h4; exact ⟨_, _, rfl, h3, by omega⟩

theorem OX.sr {w : World} {base : Nat} {v : Value} {R : List Xf} (h : OX w base v R) : SR 2 w v (R.map csX) := by
  have hlt := h.lt
  have hc := @World.ownsRow.cells _ _ _ _ _ _ _ h
  rcases h.2 with ⟨rfl, h0⟩ | ⟨g, cap, cur, rfl, _, _, h3, h4, _⟩
  · obtain rfl : R = [] := List.eq_nil_of_length_eq_zero h0
    exact ⟨none, 0, rfl, Nat.le_refl _, Nat.zero_le _, fun hp => absurd hp (by simp)⟩
  · unfold maxLen at h4
    refine ⟨some ⟨g, 0, none⟩, cap, by rw [List.length_map], by rw [List.length_map]; exact h3, h4, fun _ => ⟨g, 0, rfl, (hlt g rfl).2, fun i hi j u hu => ?_⟩⟩
    rw [List.length_map] at hi
    rw [csX_get hi] at hu
    obtain ⟨g1, g2⟩ := fx2_get hi
    have hj : j < 2 := (List.getElem?_eq_some_iff.1 hu).1
    have e : j = 0 ∨ j = 1 := by omega
    rcases e with rfl | rfl
    · have := hc (g := g) rfl _ _ g1
      rw [Addr.add_lit] at this
      simp [csX] at hu
      rw [← hu]
      simpa using this
    · have := hc (g := g) rfl _ _ g2
      rw [Addr.add_lit] at this
      simp [csX] at hu
      rw [← hu, show 0 + i * 2 + 1 = 0 + (i * 2 + 1) by omega]
      simpa using this

theorem OX.nil (w : World) (base : Nat) : OX w base (.slice none 0 0) [] := World.ownsRow_nil _ _ _ _

theorem infoX : (Try.prog.info? 67).map (fun i => (i.zero, i.size, i.bytes)) = some (some (.agg #[.int .i64 0, .string ⟨#[]⟩]), 2, 24) := by kernel_rfl

/-- One more field. -/
theorem wpExt {w : World} {ops : Array Oper} {rest : List Oper} {o : Oper} {a : Act} {Q : Exit → Act → World → Prop} (hgd : o.guard = none) (s x : Operand)
    (ho : o.op = .call { callee := .builtin .append, args := #[s, x], argTypes := #[68, 68] }) (base : Nat) (v : Value) (R : List Xf) (p1 : Int) (p2 : ByteArray) (hs : a.eval s = v) (hown : OX w base v R)
    (c : Nat) (hx : a.eval x = .slice (some ⟨w.heap.size, 0, none⟩) 1 c) (hn : R.length ≤ 5864062014800) (hbase : base ≤ w.heap.size)
    (h : ∀ v' w', OX w' base v' (R ++ [(p1, p2)]) → (w.alloc (.cells #[.int .i64 p1, .string p2] 67)).grownBy w' v.ownBlock → wpList Try.prog ops Q rest (a.put o.dst v') w') :
    wpList Try.prog ops Q (o :: rest) a (w.alloc (.cells #[.int .i64 p1, .string p2] 67)) := by
  obtain ⟨i0, hi0, hz0, hz1, hz2⟩ := info_parts infoX
  refine wpList_append_own_at _ hgd s x 68 ho base 67 i0 _ 2 24 Try.underlying68 hi0 hz0 hz1 hz2 rfl (by omega) v R.length (fx2 R) hs (hown.alloc _) ⟨w.heap.size, 0, none⟩ 1 c [.int .i64 p1, .string p2] hx rfl (World.news_of_block (cs := #[.int .i64 p1, .string p2]) (t := 67) (fr := (0, 0)) (heap_alloc_new w _))
    (fun u hu => by
      simp only [List.mem_cons, List.not_mem_nil, or_false] at hu
      rcases hu with rfl | rfl <;> rfl) (by unfold maxLen; omega) (by omega) (by simp; omega) fun v' w' h1 h2 _ _ => h v' w' ?_ h2
  show World.ownsRow _ _ _ _ _ _ _
  rw [List.length_append, fx2_snoc]
  exact h1

theorem grow_ext {w wr w3 : World} {u : Value} {R : List Xf} {o : Obj} {B : Nat} (hB : Below B w wr) (hw : B ≤ w.heap.size) (hO : OX wr B u R) (hg : (wr.alloc o).grownBy w3 u.ownBlock) : Below B w w3 :=
  (hB.alloc (Nat.le_trans hw hB.size) _).grown hg (by have := hB.size; simp; omega) (fun j hj => by have := hO.lt j hj; omega)

/-- Splitting, in numbers. -/
def splN (r : List Int) : Nat := (fld r 2 2).toNat

def spl : Nat → List Xf → List Int → List Xf × Int
  | 0, acc, _ => (acc, 0)
  | f + 1, acc, r => if r.length = 0 then (acc, 0) else if r.length < 4 ∨ r.length - 4 < splN r then ([], 122) else spl f (acc ++ [(fld r 0 2, strOfNums (sub r 4 (splN r)))]) (r.drop (4 + splN r))

def spA (d : List Int) : List Xf × Int := if 65535 < d.length then ([], 124) else spl (d.length + 1) [] d

theorem fld_drop (d : List Int) (p k n : Nat) : fld (d.drop p) k n = fld d (p + k) n := by unfold fld sub; rw [List.drop_drop]
theorem sub_drop (d : List Int) (p k n : Nat) : sub (d.drop p) k n = sub d (p + k) n := by unfold sub; rw [List.drop_drop]

/-- One turn. -/
theorem spl_turn {d : List Int} {p f : Nat} {T : List Xf} (hp : p < d.length) (hf : d.length - p < f) :
    ((d.length - p < 4 ∨ d.length - p - 4 < (fld d (p + 2) 2).toNat) → spl f T (d.drop p) = ([], 122)) ∧
    (¬ (d.length - p < 4 ∨ d.length - p - 4 < (fld d (p + 2) 2).toNat) → ∃ f', d.length - (p + 4 + (fld d (p + 2) 2).toNat) < f' ∧ spl f T (d.drop p) = spl f' (T ++ [(fld d p 2, strOfNums (sub d (p + 4) (fld d (p + 2) 2).toNat))]) (d.drop (p + 4 + (fld d (p + 2) 2).toNat))) := by
  obtain ⟨f', rfl⟩ : ∃ f', f = f' + 1 := ⟨f - 1, by omega⟩
  have hl : (d.drop p).length = d.length - p := List.length_drop ..
  have hN : splN (d.drop p) = (fld d (p + 2) 2).toNat := by unfold splN; rw [fld_drop]
  refine ⟨fun h => ?_, fun h => ⟨f', by omega, ?_⟩⟩
  · rw [spl, hl, hN, if_neg (by omega), if_pos h]
  · rw [spl, hl, hN, if_neg (by omega), if_neg h, fld_drop, sub_drop, List.drop_drop, Nat.add_zero, Nat.add_assoc]

theorem spl_end {d : List Int} {f : Nat} {T : List Xf} : spl f T (d.drop d.length) = (T, 0) := by
  cases f with
  | zero => rfl
  | succ f => rw [spl, List.drop_length]; simp

theorem str_sb (w : World) (s : ByteArray) (hs : s.size ≤ maxLen) : SB (w.alloc (.cells ((strL s).map (Value.int .u8)).toArray 5)) (.slice (some ⟨w.heap.size, 0, none⟩) (strL s).length (strL s).length) (strL s) := built_sb w (strL s) (by rw [length_strL]; exact hs)
end Go.Proofs.Ytijmmfimkibgbaa

