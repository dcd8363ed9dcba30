import Derived.Test.YtijmmfimkibgbaaGSpn
import Derived.Deep.MidRow
namespace Go.Proofs.Ytijmmfimkibgbaa
open Go.RowKit Go.Maps
set_option maxRecDepth 20000
set_option linter.unusedVariables false
set_option linter.unusedSimpArgs false

/-- A list of structs of n cells that can be read. -/
def SR (n : Nat) (w : World) (v : Value) (cs : List (Array Value)) : Prop :=
  ∃ ao cap, v = .slice ao cs.length cap ∧ cs.length ≤ cap ∧ cap ≤ 9223372036854775807 ∧ (0 < cs.length → ∃ b o, ao = some ⟨b, o, none⟩ ∧ b < w.heap.size ∧ ∀ i, i < cs.length → w.rangeAt b (o + i * n) (cs.getD i #[]).toList)

theorem SR.low {n : Nat} {w w' : World} {v : Value} {cs : List (Array Value)} (h : SR n w v cs) (hb : Below w.heap.size w w') : SR n w' v cs := by
  obtain ⟨ao, cap, rfl, h1, h2, h3⟩ := h
  refine ⟨ao, cap, rfl, h1, h2, fun hp => ?_⟩
  obtain ⟨b, o, rfl, hbs, hr⟩ := h3 hp
  refine ⟨b, o, rfl, Nat.lt_of_lt_of_le hbs hb.size, fun i hi j u hu => ?_⟩
  rw [hb.cell (show (⟨b, _, none⟩ : Addr).block < w.heap.size from hbs)]
  exact hr i hi j u hu

theorem SR.open {n : Nat} {w : World} {v : Value} {cs : List (Array Value)} (h : SR n w v cs) : ∃ ao cap, v = .slice ao cs.length cap ∧ cs.length ≤ cap ∧ cap ≤ 9223372036854775807 := by
  obtain ⟨ao, cap, h0, h1, h2, -⟩ := h
  exact ⟨ao, cap, h0, h1, h2⟩

theorem SR.row {n : Nat} {w : World} {ao : Option Addr} {len cap : Nat} {cs : List (Array Value)} (h : SR n w (.slice ao len cap) cs) {i : Nat} (hi : i < cs.length) : ∃ b o, ao = some ⟨b, o, none⟩ ∧ w.rangeAt b (o + i * n) (cs.getD i #[]).toList := by
  obtain ⟨ao', cap', he, h1, h2, h3⟩ := h
  simp only [Value.slice.injEq] at he
  obtain ⟨rfl, -, -⟩ := he
  obtain ⟨b, o, hao, -, hr⟩ := h3 (by omega)
  exact ⟨b, o, hao, hr i hi⟩

theorem wpList_lmL {ops : Array Oper} {rest : List Oper} {a : Act} {w : World} {Q : Exit → Act → World → Prop} {dst : Option Tmp} {x : Operand} {ty : TypeId} {pos : String} {after : Array Edge} (b p : Nat) (A : Array Value) (hs : A.size = 10)
    (hx : a.eval x = .pointer (some ⟨b, p, none⟩)) (hg : w.rangeAt b p A.toList) (h : wpList Try.prog ops Q rest (a.put dst (.agg A)) w) :
    wpList Try.prog ops Q ({ dst := dst, op := .load 24 x, type := ty, pos := pos, after := after, guard := none } :: rest) a w :=
  wpList_load_mid rfl 24 x rfl b p hx A.toList _ hg Try.underlying24 rfl (by rw [Array.length_toList, hs]; exact rzL) (by simpa using h)

theorem wpList_lmC {ops : Array Oper} {rest : List Oper} {a : Act} {w : World} {Q : Exit → Act → World → Prop} {dst : Option Tmp} {x : Operand} {ty : TypeId} {pos : String} {after : Array Edge} (b p : Nat) (A : Array Value) (hs : A.size = 16)
    (hx : a.eval x = .pointer (some ⟨b, p, none⟩)) (hg : w.rangeAt b p A.toList) (h : wpList Try.prog ops Q rest (a.put dst (.agg A)) w) :
    wpList Try.prog ops Q ({ dst := dst, op := .load 26 x, type := ty, pos := pos, after := after, guard := none } :: rest) a w :=
  wpList_load_mid rfl 26 x rfl b p hx A.toList _ hg Try.underlying26 rfl (by rw [Array.length_toList, hs]; exact rzC) (by simpa using h)

def rowsL (ls : List Loc) : List Int := ls.flatMap fun l => rowI (loI l)
def rowsC (ls : List Cen) : List Int := ls.flatMap fun l => rowI (ceI l)

theorem rowsL_cons (l : Loc) (r : List Loc) : rowsL (l :: r) = rowI (loI l) ++ rowsL r := by simp [rowsL]
theorem rowsC_cons (l : Cen) (r : List Cen) : rowsC (l :: r) = rowI (ceI l) ++ rowsC r := by simp [rowsC]
theorem rowsL_app (a b : List Loc) : rowsL (a ++ b) = rowsL a ++ rowsL b := by simp [rowsL]
theorem rowsC_app (a b : List Cen) : rowsC (a ++ b) = rowsC a ++ rowsC b := by simp [rowsC]

def z0L : Loc := Loc.zero
def z0C : Cen := Cen.zero

theorem rowsL_take {ls : List Loc} {i : Nat} (h : i < ls.length) : rowsL (ls.take (i + 1)) = rowsL (ls.take i) ++ rowI (loI (ls.getD i z0L)) := by
  rw [List.take_succ_eq_append_getElem h, rowsL_app]
  congr 1
  simp [rowsL, List.getD, h]
theorem rowsC_take {ls : List Cen} {i : Nat} (h : i < ls.length) : rowsC (ls.take (i + 1)) = rowsC (ls.take i) ++ rowI (ceI (ls.getD i z0C)) := by
  rw [List.take_succ_eq_append_getElem h, rowsC_app]
  congr 1
  simp [rowsC, List.getD, h]

theorem rowsL_drop {ls : List Loc} {i : Nat} (h : i < ls.length) : rowsL (ls.drop i) = rowI (loI (ls.getD i z0L)) ++ rowsL (ls.drop (i + 1)) := by
  rw [List.drop_eq_getElem_cons h, rowsL_cons]
  simp [List.getD, h]
theorem rowsC_drop {ls : List Cen} {i : Nat} (h : i < ls.length) : rowsC (ls.drop i) = rowI (ceI (ls.getD i z0C)) ++ rowsC (ls.drop (i + 1)) := by
  rw [List.drop_eq_getElem_cons h, rowsC_cons]
  simp [List.getD, h]

theorem rowsL_len : ∀ (ls : List Loc), (∀ l ∈ ls, fitI (loI l)) → (rowsL ls).length ≤ ls.length * 196651
  | [], _ => by simp [rowsL]
  | l :: r, h => by
    have h1 := loI_len l (h l (List.mem_cons_self ..))
    have h2 := rowsL_len r (fun x hx => h x (List.mem_cons_of_mem _ hx))
    rw [rowsL_cons, List.length_append, List.length_cons]
    omega
theorem rowsC_len : ∀ (ls : List Cen), (∀ l ∈ ls, fitI (ceI l)) → (rowsC ls).length ≤ ls.length * 196651
  | [], _ => by simp [rowsC]
  | l :: r, h => by
    have h1 := ceI_len l (h l (List.mem_cons_self ..))
    have h2 := rowsC_len r (fun x hx => h x (List.mem_cons_of_mem _ hx))
    rw [rowsC_cons, List.length_append, List.length_cons]
    omega

theorem csL_get {ls : List Loc} {i : Nat} (h : i < ls.length) : (ls.map Loc.cs).getD i #[] = (ls.getD i z0L).cs := by simp [List.getD, h]
theorem csC_get {ls : List Cen} {i : Nat} (h : i < ls.length) : (ls.map Cen.cs).getD i #[] = (ls.getD i z0C).cs := by simp [List.getD, h]

theorem memL {ls : List Loc} {i : Nat} (h : i < ls.length) : ls.getD i z0L ∈ ls := by simp [List.getD, h]
theorem memC {ls : List Cen} {i : Nat} (h : i < ls.length) : ls.getD i z0C ∈ ls := by simp [List.getD, h]

theorem byt_rowsL (ls : List Loc) : Byt (rowsL ls) := by
  induction ls with
  | nil => intro i; simp [rowsL]
  | cons l r ih => rw [rowsL_cons]; exact byt_append (byt_rowI _) ih
theorem byt_rowsC (ls : List Cen) : Byt (rowsC ls) := by
  induction ls with
  | nil => intro i; simp [rowsC]
  | cons l r ih => rw [rowsC_cons]; exact byt_append (byt_rowI _) ih
end Go.Proofs.Ytijmmfimkibgbaa

