import Derived.Test.YtmjdpfigkojolaaGreatDoorG00Oix
import Derived.Test.YtmjdpfigkojolaaGreatDoorRows
import Derived.Laws.StructEq
namespace Go.Proofs.YtmjdpfigkojolaaGreatDoor
open Go.RowKit Go.Maps
set_option maxRecDepth 20000
set_option linter.unusedVariables false

end Go.Proofs.YtmjdpfigkojolaaGreatDoor

namespace Go.Proofs.YtmjdpfigkojolaaGreatDoor
set_option linter.unusedVariables false

abbrev Rn := Int × Int

def eqn (v : Int) : List Int → Nat
  | [] => 0
  | x :: r => if x = v then eqn v r + 1 else 0

def n18 (l : List Int) (k : Nat) : Nat := min (eqn 0 (l.drop k)) 138
def n17 (l : List Int) (k : Nat) : Nat := min (eqn 0 (l.drop k)) 10
def n16 (l : List Int) (k : Nat) : Nat := if k = 0 then 0 else min (eqn (l.getD (k - 1) 0) (l.drop k)) 6

def lst (s : Int) : Int := if s < 16 then 1 else if s < 18 then 3 else 11
def frt (s : Int) : Nat := if s < 16 then 0 else if s = 16 then 2 else if s = 17 then 3 else 7
def mst (s : Int) : Int := if s < 16 then 1 else if s = 16 then 6 else if s = 17 then 10 else 138
def Okr (r : Rn) : Prop := 0 ≤ r.1 ∧ r.1 ≤ 18 ∧ lst r.1 ≤ r.2 ∧ r.2 ≤ mst r.1
instance (r : Rn) : Decidable (Okr r) := by unfold Okr; infer_instance

def mnt (s : Int) (a : List Int) : Int := if s < 16 then s else if s = 16 then a.getD (a.length - 1) 0 else 0
def lay (a : List Int) (r : Rn) : List Int := a ++ List.replicate r.2.toNat (mnt r.1 a)
def lays (a : List Int) (rs : List Rn) : List Int := rs.foldl lay a

def xpE (a : List Int) : List Rn → Int
  | [] => 0
  | r :: rs => if Okr r then if r.1 = 16 ∧ a = [] then 73 else xpE (lay a r) rs else 77

def xpL (rs : List Rn) : List Int := if xpE [] rs = 0 then lays [] rs else []

theorem lay_len (a : List Int) (r : Rn) : (lay a r).length = a.length + r.2.toNat := by simp [lay]
theorem lays_snoc (a : List Int) (rs : List Rn) (r : Rn) : lays a (rs ++ [r]) = lay (lays a rs) r := by simp [lays]

end Go.Proofs.YtmjdpfigkojolaaGreatDoor

namespace Go.Proofs.YtmjdpfigkojolaaGreatDoor
open Go.RowKit Go.Maps
set_option maxRecDepth 20000
set_option linter.unusedVariables false

structure Tab (w : World) : Prop where
  least : ∀ i : Nat, i < 19 → w.cell? ⟨2, i, none⟩ = some (.int .i64 (lst i))
  further : ∀ i : Nat, i < 19 → w.cell? ⟨1, i, none⟩ = some (.int .i64 (frt i : Nat))

theorem Tab.below {W w w' : World} {B : Nat} (h : Tab w) (h0 : Tab W) (hW : W.heap.size ≤ B) (hb : Below B w w') : Tab w' :=
  ⟨fun i hi => (hb.cell (Nat.lt_of_lt_of_le (World.block_lt_of_cell? W _ (h0.least i hi)) hW)).trans (h.least i hi), fun i hi => (hb.cell (Nat.lt_of_lt_of_le (World.block_lt_of_cell? W _ (h0.further i hi)) hW)).trans (h.further i hi)⟩

theorem Tab.mono {w w' : World} (h : Tab w) (hb : Below w.heap.size w w') : Tab w' := h.below h (Nat.le_refl _) hb

theorem Tab.drewN {w : World} (h : Tab w) (n : Nat) : Tab (w.drewN n) := ⟨h.least, h.further⟩

def fr2 (R : List Rn) : List Value := R.flatMap fun r => [.int .i64 r.1, .int .i64 r.2]

def rn0 : Rn := (0, 0)

theorem fr2_get {R : List Rn} {i : Nat} (h : i < R.length) : (fr2 R)[i * 2]? = some (.int .i64 (R.getD i rn0).1) ∧ (fr2 R)[i * 2 + 1]? = some (.int .i64 (R.getD i rn0).2) := by
  induction R generalizing i with
  | nil => simp at h
  | cons a r ih =>
    cases i with
    | zero => exact ⟨rfl, rfl⟩
    | succ i =>
      have := ih (i := i) (by simpa using h)
      have e : fr2 (a :: r) = .int .i64 a.1 :: .int .i64 a.2 :: fr2 r := rfl
      rw [e, show (i + 1) * 2 = i * 2 + 1 + 1 by omega, show i * 2 + 1 + 1 + 1 = (i * 2 + 1) + 1 + 1 by omega]
      simp only [List.getElem?_cons_succ]
      exact this

theorem fr2_snoc (R : List Rn) (p : Rn) : fr2 (R ++ [p]) = fr2 R ++ [.int .i64 p.1, .int .i64 p.2] := by simp [fr2]
theorem fr2_app (R S : List Rn) : fr2 (R ++ S) = fr2 R ++ fr2 S := by simp [fr2]

def SR (w : World) (v : Value) (R : List Rn) : Prop :=
  ∃ ao cap, v = .slice ao R.length cap ∧ R.length ≤ cap ∧ cap ≤ maxLen ∧ (ao = none → cap = 0) ∧ ∀ x, ao = some x → ∀ i, i < R.length → w.cell? (x.add (i * 2)) = some (.int .i64 (R.getD i rn0).1) ∧ w.cell? (x.add (i * 2 + 1)) = some (.int .i64 (R.getD i rn0).2)

def OR (w : World) (base : Nat) (v : Value) (R : List Rn) : Prop := w.ownsRow base 175 2 v R.length (fr2 R)

theorem SR.below {w w' : World} {v : Value} {R : List Rn} (h : SR w v R) (hb : Below w.heap.size w w') : SR w' v R := by
  obtain ⟨ao, cap, rfl, h1, h2, h3, h4⟩ := h
  refine ⟨ao, cap, rfl, h1, h2, h3, fun x hx i hi => ?_⟩
  obtain ⟨c1, c2⟩ := h4 x hx i hi
  exact ⟨(hb.cell (World.block_lt_of_cell? w _ c1)).trans c1, (hb.cell (World.block_lt_of_cell? w _ c2)).trans c2⟩

theorem SR.drewN {w : World} {v : Value} {R : List Rn} (h : SR w v R) (n : Nat) : SR (w.drewN n) v R := h

theorem SR.open {w : World} {v : Value} {R : List Rn} (h : SR w v R) : ∃ ao cap, v = .slice ao R.length cap ∧ R.length ≤ cap ∧ cap ≤ 9223372036854775807 := by
  obtain ⟨ao, cap, rfl, h1, h2, _⟩ := h
  unfold maxLen at h2
  exact ⟨ao, cap, rfl, h1, by omega⟩

theorem SR.get {W w : World} {ao : Option Addr} {cap : Nat} {R : List Rn} (h : SR W (.slice ao R.length cap) R) (hb : Below W.heap.size W w) {k : Nat} (hk : k < R.length) : ∃ b o, ao = some ⟨b, o, none⟩ ∧ w.cell? ⟨b, o + k * 2, none⟩ = some (.int .i64 (R.getD k rn0).1) ∧ w.cell? ⟨b, o + k * 2 + 1, none⟩ = some (.int .i64 (R.getD k rn0).2) := by
  obtain ⟨ao', cap', he, h1, h2, h3, h4⟩ := h
  simp only [Value.slice.injEq] at he
  obtain ⟨rfl, -, rfl⟩ := he
  cases ao with
  | none => have := h3 rfl; omega
  | some x =>
    obtain ⟨b, o, rfl⟩ := addr_lit (h4 x rfl 0 (by omega)).1
    obtain ⟨c1, c2⟩ := h4 _ rfl k hk
    rw [Addr.add_lit] at c1 c2
    exact ⟨b, o, rfl, (hb.cell (World.block_lt_of_cell? W _ c1)).trans c1, (hb.cell (World.block_lt_of_cell? W _ c2)).trans c2⟩

theorem rown_move {w w' : World} {base : Nat} {e : TypeId} {size : Nat} {v : Value} {n : Nat} {xs : List Value} (h : w.ownsRow base e size v n xs) (hb : ∀ k, v.ownBlock = some k → w'.heap[k]? = w.heap[k]?) : w'.ownsRow base e size v n xs := by
  refine ⟨h.1, ?_⟩
  rcases h.2 with h2 | ⟨g, cap, cur, rfl, h1, h2, r⟩
  · exact .inl h2
  · exact .inr ⟨g, cap, cur, rfl, h1, (hb g rfl).trans h2, r⟩

theorem OR.lt {w : World} {base : Nat} {v : Value} {R : List Rn} (h : OR w base v R) : ∀ k, v.ownBlock = some k → base ≤ k ∧ k < w.heap.size := World.ownsRow.lt h
theorem OR.below {w w' : World} {base B : Nat} {v : Value} {R : List Rn} (h : OR w base v R) (hb : Below B w w') (hB : w.heap.size ≤ B) : OR w' base v R := rown_move h fun k hk => hb.block k (Nat.lt_of_lt_of_le (h.lt k hk).2 hB)
theorem OR.drewN {w : World} {base : Nat} {v : Value} {R : List Rn} (h : OR w base v R) (n : Nat) : OR (w.drewN n) base v R := rown_move h fun _ _ => rfl
theorem OR.alloc {w : World} {base : Nat} {v : Value} {R : List Rn} (h : OR w base v R) (o : Obj) : OR (w.alloc o) base v R := rown_move h fun k hk => Below.heap_alloc w o k (h.lt k hk).2
theorem OR.base {w : World} {base base' : Nat} {v : Value} {R : List Rn} (h : OR w base v R) (hb : base' ≤ base) : OR w base' v R := by
  refine ⟨h.1, ?_⟩
  rcases h.2 with h2 | ⟨g, cap, cur, rfl, h1, r⟩
  · exact .inl h2
  · exact .inr ⟨g, cap, cur, rfl, Nat.le_trans hb h1, r⟩

theorem OR.shape {w : World} {base : Nat} {v : Value} {R : List Rn} (h : OR w base v R) : ∃ a c, v = .slice a R.length c ∧ R.length ≤ c ∧ c ≤ 9223372036854775807 := by
  rcases h.2 with ⟨rfl, h0⟩ | ⟨g, cap, cur, rfl, _, _, h3, h4, _⟩
  · exact ⟨none, 0, by rw [h0], by omega, by omega⟩
  · unfold maxLen at h4; exact ⟨_, _, rfl, h3, by omega⟩

theorem OR.sr {w : World} {base : Nat} {v : Value} {R : List Rn} (h : OR w base v R) : SR w v R := by
  have hc := @World.ownsRow.cells _ _ _ _ _ _ _ h
  rcases h.2 with ⟨rfl, h0⟩ | ⟨g, cap, cur, rfl, _, _, h3, h4, _⟩
  · obtain rfl : R = [] := List.eq_nil_of_length_eq_zero h0
    exact ⟨none, 0, rfl, Nat.le_refl _, Nat.zero_le _, fun _ => rfl, fun x hx => by cases hx⟩
  · refine ⟨some ⟨g, 0, none⟩, cap, rfl, h3, h4, (fun e => by cases e), fun x hx i hi => ?_⟩
    cases hx
    obtain ⟨g1, g2⟩ := fr2_get hi
    exact ⟨hc (g := g) rfl _ _ g1, hc (g := g) rfl _ _ g2⟩

theorem OR.nil (w : World) (base : Nat) : OR w base (.slice none 0 0) [] := World.ownsRow_nil _ _ _ _

theorem infoRun : (Tryz.prog.info? 175).map (fun i => (i.zero, i.size, i.bytes)) = some (some (.agg #[.int .i64 0, .int .i64 0]), 2, 16) := by kernel_rfl

theorem wpRun {w : World} {ops : Array Oper} {rest : List Oper} {o : Oper} {a : Act} {Q : Exit → Act → World → Prop} (hgd : o.guard = none) (s x : Operand)
    (ho : o.op = .call { callee := .builtin .append, args := #[s, x], argTypes := #[202, 202] }) (base : Nat) (v : Value) (R : List Rn) (p1 p2 : Int) (hs : a.eval s = v) (hown : OR w base v R)
    (c : Nat) (hx : a.eval x = .slice (some ⟨w.heap.size, 0, none⟩) 1 c) (hn : R.length ≤ 100000000) (hbase : base ≤ w.heap.size)
    (h : ∀ v' w', OR w' base v' (R ++ [(p1, p2)]) → (w.alloc (.cells #[.int .i64 p1, .int .i64 p2] 175)).grownBy w' v.ownBlock → wpList Tryz.prog ops Q rest (a.put o.dst v') w') :
    wpList Tryz.prog ops Q (o :: rest) a (w.alloc (.cells #[.int .i64 p1, .int .i64 p2] 175)) := by
  obtain ⟨i0, hi0, hz0, hz1, hz2⟩ := info_parts infoRun
  refine wpList_append_own_at _ hgd s x 202 ho base 175 i0 _ 2 16 Tryz.underlying202 hi0 hz0 hz1 hz2 rfl (by omega) v R.length (fr2 R) hs (hown.alloc _) ⟨w.heap.size, 0, none⟩ 1 c [.int .i64 p1, .int .i64 p2] hx rfl (World.news_of_block (cs := #[.int .i64 p1, .int .i64 p2]) (t := 175) (fr := (0, 0)) (heap_alloc_new w _))
    (fun u hu => by
      simp only [List.mem_cons, List.not_mem_nil, or_false] at hu
      rcases hu with rfl | rfl <;> rfl) (by unfold maxLen; omega) (by omega) (by simp; omega) fun v' w' h1 h2 _ _ => h v' w' ?_ h2
  show World.ownsRow _ _ _ _ _ _ _
  rw [List.length_append, fr2_snoc]
  exact h1

theorem grow_run {w wr w3 : World} {u : Value} {R : List Rn} {o : Obj} {B : Nat} (hB : Below B w wr) (hw : B ≤ w.heap.size) (hO : OR wr B u R) (hg : (wr.alloc o).grownBy w3 u.ownBlock) : Below B w w3 :=
  (hB.alloc (Nat.le_trans hw hB.size) _).grown hg (by have := hB.size; simp; omega) (fun j hj => by have := hO.lt j hj; omega)

theorem grow_one7 {w wr w3 : World} {u v3 : Value} {D : List Int} {o : Obj} {B : Nat} (hB : Below B w wr) (hw : B ≤ w.heap.size) (hO : OI wr B u D) (hg : Grew (wr.alloc o) w3 u v3) : Below B w w3 :=
  (hB.alloc (Nat.le_trans hw hB.size) _).grown hg.by (by have := hB.size; simp; omega) (fun j hj => by have := hO.lt j hj; omega)
end Go.Proofs.YtmjdpfigkojolaaGreatDoor

namespace Go.Proofs.YtmjdpfigkojolaaGreatDoor
open Go.RowKit Go.Maps
set_option maxRecDepth 20000
set_option linter.unusedVariables false

end Go.Proofs.YtmjdpfigkojolaaGreatDoor

namespace Go.Proofs.YtmjdpfigkojolaaGreatDoor
open Go.RowKit Go.Maps
set_option maxRecDepth 20000
set_option linter.unusedVariables false

theorem tab_cases (s : Nat) (h : s < 19) : (lst s = 1 ∧ frt s = 0 ∧ mst s = 1) ∨ (lst s = 3 ∧ frt s = 2 ∧ mst s = 6) ∨ (lst s = 3 ∧ frt s = 3 ∧ mst s = 10) ∨ (lst s = 11 ∧ frt s = 7 ∧ mst s = 138) := by
  unfold lst frt mst
  by_cases h1 : (s : Int) < 16
  · left; rw [if_pos h1, if_pos h1, if_pos h1]; exact ⟨rfl, rfl, rfl⟩
  · by_cases h2 : (s : Int) = 16
    · right; left; rw [h2]; exact ⟨rfl, rfl, rfl⟩
    · by_cases h3 : (s : Int) = 17
      · right; right; left; rw [h3]; exact ⟨rfl, rfl, rfl⟩
      · right; right; right; rw [show (s : Int) = 18 by omega]; exact ⟨rfl, rfl, rfl⟩

theorem meant_any (s : Int) (v : Value) (l : List Int) (w : World) (h : SI w v l) (h16 : s = 16 → 0 < l.length) :
    Calls Tryz.prog 137 #[.int .i64 s, v] w fun e w' => e = .returned (.int .i64 (mnt s l)) ∧ w' = w := by
  have HS := hide h
  obtain ⟨ao, cap, rfl, hlc, hcm⟩ := h.open
  clear h
  by_cases c1 : s < 16
  · have HM : Hid (mnt s l = s) := by show _ = _; unfold mnt; rw [if_pos c1]
    clear h16
    go_enter Tryz.func137, Tryz.ntmps137
    go_wp2
    go_ret
    rw [HM.out]
    exact ⟨rfl, rfl⟩
  · by_cases c2 : s = 16
    · subst c2
      have hl := h16 rfl
      obtain ⟨b, o, rfl, hc⟩ := HS.out.get (Below.refl _ _) (k := l.length - 1) (by omega)
      have HM : Hid (mnt 16 l = l.getD (l.length - 1) 0) := rfl
      obtain ⟨y, HY⟩ : ∃ y, Hid (y = l.getD (l.length - 1) 0) := ⟨_, rfl⟩
      rw [← HY.out] at hc HM
      obtain ⟨n, hn⟩ : ∃ n, l.length = n + 1 := ⟨l.length - 1, by omega⟩
      rw [hn] at hc hlc ⊢
      rw [Nat.add_sub_cancel] at hc
      clear HS hl hn h16 c1
      go_enter Tryz.func137, Tryz.ntmps137
      go_wp2
      go_ret
      rw [HM.out]
      exact ⟨rfl, rfl⟩
    · have HM : Hid (mnt s l = 0) := by show _ = _; unfold mnt; rw [if_neg c1, if_neg c2]
      have c3 : (s == 16) = false := by simpa using c2
      clear h16
      go_enter Tryz.func137, Tryz.ntmps137
      go_wp2
      go_ret
      rw [HM.out]
      exact ⟨rfl, rfl⟩
end Go.Proofs.YtmjdpfigkojolaaGreatDoor

namespace Go.Proofs.YtmjdpfigkojolaaGreatDoor
open Go.RowKit Go.Maps
set_option maxRecDepth 20000

theorem run_part (f : Nat → Int) {k : Nat} (h : k < 16) (w : World) : (part 3 (av f) k).run Tryz.prog w = .ok (.int .i64 (f k)) w := by
  simp [part, isAgg, run_underlying Tryz.underlying3, av_get f h]

theorem run_index (f : Nat → Int) {k : Nat} (h : k < 16) (w : World) : (Instr.index 161 (.agg (av f)) (.int .i64 k)).run Tryz.prog w = .ok (.int .i64 (f k)) w := by
  obtain ⟨i0, hi, hz0, hz1, hz2⟩ := info_parts infoInt
  simp [Instr.index, asIntOf, run_underlying Tryz.underlying161, sizeOf, typeInfo, hi, hz1, run_part f h]
  omega

def eq16 (f g : Nat → Int) : Bool := (List.range' 0 16).all fun i => f i == g i

theorem eq16_iff (f g : Nat → Int) : eq16 f g = true ↔ ∀ i, i < 16 → f i = g i := by
  unfold eq16
  rw [List.all_eq_true]
  constructor
  · intro h i hi
    have := h i (by simp [List.mem_range']; omega)
    simpa using this
  · intro h i hi
    simp [List.mem_range'] at hi
    have := h i (by omega)
    simpa using this

theorem forIn_eq {P : Program} (f g : Nat → Int) (body : Nat → Option Bool × Unit → Sem (ForInStep (Option Bool × Unit))) (hb : ∀ i w, i < 16 → (body i (none, ())).run P w = .ok (if f i = g i then .yield (none, ()) else .done (some false, ())) w) :
    ∀ n k w, k + n ≤ 16 → (forIn (List.range' k n) (none, ()) body).run P w = .ok (if ((List.range' k n).all fun i => f i == g i) then (none, ()) else (some false, ())) w := by
  intro n
  induction n with
  | zero => intro k w _; simp
  | succ n ih =>
    intro k w h
    simp only [List.range'_succ, List.forIn_cons, Sem.run_bind, hb k w (by omega)]
    by_cases e : f k = g k
    · have e2 : (f k == g k) = true := by simp [e]
      simp only [List.all_cons, e2, Bool.true_and]
      simp [e, ih (k + 1) w (by omega)]
    · have e2 : (f k == g k) = false := by simp [e]
      simp only [List.all_cons, e2, Bool.false_and]
      simp [e]

theorem run_equal_per (d : Nat) (f g : Nat → Int) (w : World) (H : ∀ a b w, (Op.equalIn d 3 (.int .i64 a) (.int .i64 b)).run Tryz.prog w = .ok (a == b) w) : (Op.equalIn (d+1) 161 (.agg (av f)) (.agg (av g))).run Tryz.prog w = .ok (eq16 f g) w := by
  obtain ⟨i0, hi, hz0, hz1, hz2⟩ := info_parts infoInt
  simp only [Op.equalIn, Sem.run_bind, run_underlying Tryz.underlying161, Result.andThen_ok]
  simp [sizeOf, typeInfo, hi, hz1]
  rw [forIn_eq f g _ _ 16 0 w (by omega)]
  · by_cases e : eq16 f g = true
    · have e2 := e
      unfold eq16 at e2
      simp [e2, e]
    · have e3 : eq16 f g = false := by simpa using e
      have e2 := e3
      unfold eq16 at e2
      simp [e2, e3]
  · intro i w hi
    simp [run_part f hi, run_part g hi, H]
    by_cases e : f i = g i
    · simp [e]
    · simp [e]

theorem run_eql_per (f g : Nat → Int) (w : World) : (binOp .eql 161 (.agg (av f)) (.agg (av g))).run Tryz.prog w = .ok (.bool (eq16 f g)) w := by
  rw [run_eql_struct, run_equal_per 9999 f g w (fun a b w => run_equalIn_int w 9998 3 .i64 .i64 a b Tryz.underlying3)]
  rfl

theorem rows_shr {k : Nat} (h : k ≤ 15) : (32768 : Int) / 2 ^ k = ((2 ^ (15 - k) : Nat) : Int) := by
  have e : (32768 : Int) = ((2 ^ (15 - k) : Nat) : Int) * 2 ^ k := by
    have : (2 : Nat) ^ (15 - k) * 2 ^ k = 2 ^ 15 := by rw [← Nat.pow_add]; congr 1; omega
    have h2 : ((2 ^ (15 - k) * 2 ^ k : Nat) : Int) = 32768 := by rw [this]; rfl
    rw [← h2]; push_cast; rfl
  conv => lhs; rw [e]
  exact Int.mul_ediv_cancel _ (by have := pow_pos k; omega)

theorem used_any (l : List Int) (w : World) (hl : Lens l) :
    Calls Tryz.prog 134 #[.agg (av fun n => (cn l n : Int))] w fun e w' => e = .returned (.int .i64 (us l 16)) ∧ Below w.heap.size w w' := by
  have HL := hide hl
  clear hl
  obtain ⟨A, HA⟩ : ∃ A, Hid (A = av fun n => (cn l n : Int)) := ⟨_, rfl⟩
  rw [← HA.out]
  have HG : Hid ((w.alloc (.cells A 161)).heap[w.heap.size]? = some (.cells (av fun n => (cn l n : Int)) 161 (0, 0))) := by rw [← HA.out]; exact heap_alloc_new w _
  have HB : Hid (Below w.heap.size w (w.alloc (.cells A 161))) := (Below.refl _ _).alloc (Nat.le_refl _) _
  obtain ⟨W, HW⟩ : ∃ W, Hid (W = w.alloc (.cells A 161)) := ⟨_, rfl⟩
  rw [← HW.out] at HG HB
  go_enter Tryz.func134, Tryz.ntmps134
  go_wp2_with (first | ((with_reducible refine wpList_loadP w.heap.size _ ?hx (show (w.alloc (.cells A 161)).heap[w.heap.size]? = some (.cells (av fun n => (cn l n : Int)) 161 (0, 0)) from by rw [← HW.out]; exact HG.out) ?_); case hx => rfl))
  rw [← HW.out]
  go_loopw [3, 7] (fun u i wr => ∃ k : Nat, k ≤ 16 ∧ i = .int .i64 k ∧ u = .int .i64 (us l k) ∧ wr = W) (fun _ i _ => 16 - (intOf i).toNat)
  case atStart => exact ⟨0, Nat.zero_le _, rfl, rfl, rfl⟩
  case round =>
    obtain ⟨k, hk, rfl, rfl, rfl⟩ := hrel
    by_cases hlt : k < 16
    · have hlt' : (k : Int) < 16 := by omega
      have hg := fun W => run_index (fun n => (cn l n : Int)) hlt W
      have b2 : cn l k ≤ 288 := by have := cn_le l k; have := HL.out.1; omega
      have b3 : us l k ≤ 288 * 16384 := Nat.le_trans (us_mono l (by omega)) (us_bound HL.out)
      have b4 : 2 ^ (15 - k) ≤ 32768 := Nat.pow_le_pow_right (n := 2) (by decide) (show 15 - k ≤ 15 by omega)
      have hs := rows_shr (k := k) (by omega)
      have HS : Hid (us l (k + 1) = us l k + cn l k * 2 ^ (15 - k)) := rfl
      obtain ⟨c, HC⟩ : ∃ c : Nat, Hid (c = cn l k) := ⟨_, rfl⟩
      obtain ⟨p, HP⟩ : ∃ p : Nat, Hid (p = 2 ^ (15 - k)) := ⟨_, rfl⟩
      obtain ⟨u, HU⟩ : ∃ u : Nat, Hid (u = us l k) := ⟨_, rfl⟩
      rw [← HC.out] at b2 hg HS
      rw [← HP.out] at b4 hs HS
      rw [← HU.out] at b3 HS ⊢
      have hcp : c * p ≤ 288 * 32768 := Nat.mul_le_mul b2 b4
      have hcp' : (c : Int) * p = ((c * p : Nat) : Int) := by push_cast; rfl
      obtain ⟨m, HM⟩ : ∃ m : Nat, Hid (m = c * p) := ⟨_, rfl⟩
      rw [← HM.out] at hcp hcp' HS
      go_wp2
      go_roundw
      case rel => exact ⟨k + 1, by omega, by go_num, by rw [HS.out]; push_cast; rfl, by trivial⟩
      case measure => simp [intOf]; omega
    · obtain rfl : k = 16 := by omega
      have hlt' : ¬ ((16 : Nat) : Int) < 16 := by omega
      go_wp2
      go_ret
      exact ⟨rfl, HB.out⟩

theorem shape_any (l : List Int) (w : World) (hl : Lens l) :
    Calls Tryz.prog 109 #[.agg (av fun n => (cn l n : Int))] w fun e w' => e = .returned (.int .i64 (shp l)) ∧ Below w.heap.size w w' := by
  have HL := hide hl
  have HU := hide (us_sum hl.2)
  have hz : eq16 (fun n => (cn l n : Int)) (fun _ => 0) = decide (tsum l = 0) := by
    rw [Bool.eq_iff_iff, eq16_iff, decide_eq_true_iff, tsum_zero hl]
    exact ⟨fun h n hn => by have := h n hn; omega, fun h n hn => by rw [h n hn]; rfl⟩
  have ho : eq16 (fun n => (cn l n : Int)) (fun n => if n = 1 then 1 else 0) = decide (tsum l = 1 ∧ usum l = 16384) := by
    rw [Bool.eq_iff_iff, eq16_iff, decide_eq_true_iff, single_iff hl]
    exact ⟨fun h n hn => by have := h n hn; by_cases e : n = 1 <;> simp [e] at this ⊢ <;> omega, fun h n hn => by rw [h n hn]; by_cases e : n = 1 <;> simp [e]⟩
  have hb := us_bound hl
  rw [HU.out] at hb
  clear hl
  have q1 := fun W => run_eql_per (fun n => (cn l n : Int)) (fun _ => 0) W
  have q2 := fun W => run_eql_per (fun n => (cn l n : Int)) (fun n => if n = 1 then 1 else 0) W
  rw [av_zero, hz] at q1
  have e1 : av (fun n => if n = 1 then 1 else 0) = #[.int .i64 0, .int .i64 1, .int .i64 0, .int .i64 0, .int .i64 0, .int .i64 0, .int .i64 0, .int .i64 0, .int .i64 0, .int .i64 0, .int .i64 0, .int .i64 0, .int .i64 0, .int .i64 0, .int .i64 0, .int .i64 0] := rfl
  rw [e1, ho] at q2
  clear hz ho e1
  have HG : Hid ((w.alloc (.cells (av fun n => (cn l n : Int)) 161)).heap[w.heap.size]? = some (.cells (av fun n => (cn l n : Int)) 161 (0, 0))) := heap_alloc_new w _
  have HB : Hid (Below w.heap.size w (w.alloc (.cells (av fun n => (cn l n : Int)) 161))) := (Below.refl _ _).alloc (Nat.le_refl _) _
  obtain ⟨U, HUU⟩ : ∃ U : Nat, Hid (U = usum l) := ⟨_, rfl⟩
  have HSH : Hid (shp l = if tsum l = 0 then 0 else if tsum l = 1 ∧ usum l = 16384 then 1 else if 32768 < usum l then 3 else if usum l = 32768 then 4 else 2) := rfl
  rw [← HUU.out] at hb HSH q2
  go_enter Tryz.func109, Tryz.ntmps109
  go_wp2_with ((with_reducible refine wpList_loadP w.heap.size _ ?hx HG.out ?_); (case hx => rfl))
  refine (used_any l _ HL.out).mono ?_
  rintro e w2 ⟨rfl, hb2⟩
  rw [HU.out, ← HUU.out]
  have HG2 : Hid (w2.heap[w.heap.size]? = some (.cells (av fun n => (cn l n : Int)) 161 (0, 0))) := (hb2.block _ (by simp)).trans HG.out
  have HB2 : Hid (Below w.heap.size w w2) := HB.out.trans (hb2.mono (by simp))
  clear hb2 HG HB
  by_cases c1 : tsum l = 0
  · have d1 : decide (tsum l = 0) = true := decide_eq_true c1
    rw [d1] at q1
    have HX : Hid (shp l = 0) := by show _ = _; rw [HSH.out, if_pos c1]
    clear c1 d1 HSH q2
    go_wp2_with ((with_reducible refine wpList_loadP w.heap.size _ ?hx HG2.out ?_); (case hx => rfl))
    go_ret
    rw [HX.out]
    exact ⟨rfl, HB2.out⟩
  have d1 : decide (tsum l = 0) = false := decide_eq_false c1
  rw [d1] at q1
  by_cases c2 : tsum l = 1 ∧ U = 16384
  · have d2 : decide (tsum l = 1 ∧ U = 16384) = true := decide_eq_true c2
    rw [d2] at q2
    have HX : Hid (shp l = 1) := by show _ = _; rw [HSH.out, if_neg c1, if_pos c2]
    clear c1 d1 c2 d2 HSH
    go_wp2_with ((with_reducible refine wpList_loadP w.heap.size _ ?hx HG2.out ?_); (case hx => rfl))
    go_ret
    rw [HX.out]
    exact ⟨rfl, HB2.out⟩
  have d2 : decide (tsum l = 1 ∧ U = 16384) = false := decide_eq_false c2
  rw [d2] at q2
  have HX : Hid (shp l = if 32768 < U then 3 else if U = 32768 then 4 else 2) := by show _ = _; rw [HSH.out, if_neg c1, if_neg c2]
  clear c1 d1 c2 d2 HSH
  by_cases c3 : 32768 < U
  · have HY : Hid (shp l = 3) := by show _ = _; rw [HX.out, if_pos c3]
    clear HX
    go_wp2_with ((with_reducible refine wpList_loadP w.heap.size _ ?hx HG2.out ?_); (case hx => rfl))
    go_ret
    rw [HY.out]
    exact ⟨rfl, HB2.out⟩
  by_cases c4 : U = 32768
  · have HY : Hid (shp l = 4) := by show _ = _; rw [HX.out, if_neg c3, if_pos c4]
    clear HX HUU
    subst c4
    go_wp2_with ((with_reducible refine wpList_loadP w.heap.size _ ?hx HG2.out ?_); (case hx => rfl))
    go_ret
    rw [HY.out]
    exact ⟨rfl, HB2.out⟩
  · have HY : Hid (shp l = 2) := by show _ = _; rw [HX.out, if_neg c3, if_neg c4]
    clear HX
    go_wp2_with ((with_reducible refine wpList_loadP w.heap.size _ ?hx HG2.out ?_); (case hx => rfl))
    go_ret
    rw [HY.out]
    exact ⟨rfl, HB2.out⟩
end Go.Proofs.YtmjdpfigkojolaaGreatDoor

namespace Go.Proofs.YtmjdpfigkojolaaGreatDoor
open Go.RowKit Go.Maps
set_option maxRecDepth 20000

def wds (l : List Int) : List Int := (List.range l.length).map fun s => (wd l s : Int)

theorem wds_len (l : List Int) : (wds l).length = l.length := by simp [wds]

theorem wds_get {l : List Int} {k : Nat} (h : k < l.length) : (wds l).getD k 0 = (wd l k : Int) := by simp [wds, h]

def outAt (l : List Int) (k : Nat) : List Int := (wds l).take k ++ List.replicate (l.length - k) 0

theorem out_zero (l : List Int) : outAt l 0 = List.replicate l.length 0 := by simp [outAt]

theorem out_end (l : List Int) : outAt l l.length = wds l := by
  unfold outAt
  rw [List.take_of_length_le (by rw [wds_len]; exact Nat.le_refl _)]; simp

theorem out_len {l : List Int} {k : Nat} (h : k ≤ l.length) : (outAt l k).length = l.length := by
  unfold outAt
  rw [List.length_append, List.length_take, wds_len, List.length_replicate]; omega

theorem out_succ {l : List Int} {k : Nat} (h : k < l.length) : outAt l (k + 1) = (outAt l k).set k (wd l k : Int) := by
  unfold outAt
  have hl : k < (wds l).length := by rw [wds_len]; exact h
  rw [List.take_succ_eq_append_getElem hl]
  have e : (wds l)[k] = (wd l k : Int) := by simp [wds]
  rw [e]
  have h2 : ((wds l).take k).length = k := by rw [List.length_take]; omega
  rw [List.set_append_right _ _ (by omega), h2, Nat.sub_self]
  rw [show l.length - k = (l.length - (k + 1)) + 1 by omega, List.replicate_succ, List.set_cons_zero]
  simp

theorem out_same {l : List Int} {k : Nat} (h : k < l.length) (h0 : ln l k = 0) : outAt l (k + 1) = outAt l k := by
  unfold outAt
  have hl : k < (wds l).length := by rw [wds_len]; exact h
  rw [List.take_succ_eq_append_getElem hl]
  have e : (wds l)[k] = 0 := by simp [wds, wd, h0]
  rw [e, show l.length - k = (l.length - (k + 1)) + 1 by omega, List.replicate_succ]
  simp

def Wst (w : World) (l : List Int) (k : Nat) (wr : World) : Prop := wr.heap[w.heap.size]? = some (.cells (av fun n => (fi l n : Int) + cn (l.take k) n) 161 (0, 0)) ∧ wr.heap[w.heap.size + 1]? = some (.cells ((outAt l k).map (Value.int .i64)).toArray 3 (0, 0)) ∧ Below w.heap.size w wr

theorem Wst.nx {w wr : World} {l : List Int} {k n : Nat} (h : Wst w l k wr) (hn : n < 16) : wr.cell? ⟨w.heap.size, n, none⟩ = some (.int .i64 ((fi l n : Int) + cn (l.take k) n)) := by
  rw [cell_of_row _ _ _ _ _ _ h.1, av_get _ hn]

theorem Wst.ou {w wr : World} {l : List Int} {k : Nat} (h : Wst w l k wr) (hk : k < l.length) : ∃ x, wr.cell? ⟨w.heap.size + 1, k, none⟩ = some (.int .i64 x) := by
  have e : k < (outAt l k).length := by rw [out_len (by omega)]; exact hk
  refine ⟨(outAt l k)[k], ?_⟩
  rw [cell_of_row _ _ _ _ _ _ h.2.1]
  simp [e]

theorem map_set (L : List Int) (k : Nat) (x : Int) : ((L.map (Value.int .i64)).toArray.setIfInBounds k (.int .i64 x)) = ((L.set k x).map (Value.int .i64)).toArray := by
  apply Array.ext'
  rw [Array.toList_setIfInBounds]
  simp [List.map_set]

theorem Wst.zero {w wr : World} {l : List Int} {k : Nat} (h : Wst w l k wr) (hk : k < l.length) (h0 : ln l k = 0) (hl : Lens l) : Wst w l (k + 1) wr := by
  refine ⟨?_, by rw [out_same hk h0]; exact h.2.1, h.2.2⟩
  rw [h.1, av_congr fun i _ => ?_]
  rw [cn_snoc hk, if_neg (fun x => x.1 (by have := (hl.ln k).1; omega))]; rfl

theorem Wst.step {w wr : World} {l : List Int} {k n : Nat} (h : Wst w l k wr) (hk : k < l.length) (hn : ln l k = n) (h0 : n ≠ 0) (hl : Lens l) (x : Int) (hx : x = (fi l n : Int) + cn (l.take k) n) :
    Wst w l (k + 1) ((wr.setCell ⟨w.heap.size + 1, k, none⟩ (.int .i64 x)).setCell ⟨w.heap.size, n, none⟩ (.int .i64 (x + 1))) := by
  have hln := hl.ln k
  have hwd : (wd l k : Int) = x := by
    rw [hx, Has.wd ⟨hk, by omega⟩, hn]
    unfold rk cn
    rw [if_neg h0, hln.1, hn]
    push_cast; rfl
  refine ⟨?_, ?_, ?_⟩
  · have h1 : (wr.setCell ⟨w.heap.size + 1, k, none⟩ (.int .i64 x)).heap[w.heap.size]? = some (.cells (av fun n => (fi l n : Int) + cn (l.take k) n) 161 (0, 0)) := (setCell_others wr _ k _ _ (by omega)).trans h.1
    rw [heap_setCell_same _ _ _ _ _ _ h1, av_set _ _ (by omega)]
    rw [av_congr fun i _ => ?_]
    unfold upf
    rw [cn_snoc hk]
    by_cases e : i = n
    · subst e
      rw [if_pos rfl, if_pos ⟨h0, by omega⟩]
      omega
    · rw [if_neg e, if_neg (fun y => e (by have := y.2; omega))]; rfl
  · rw [setCell_others _ _ n _ _ (by omega), heap_setCell_same _ _ _ _ _ _ h.2.1, map_set, out_succ hk, hwd]
  · exact (h.2.2.setCell (by show _ ≤ w.heap.size + 1; omega) _).setCell (by show _ ≤ w.heap.size; omega) _

theorem words_any (v : Value) (l : List Int) (w : World) (h : SI w v l) (hl : Lens l) :
    Calls Tryz.prog 133 #[v, .agg (av fun n => (fi l n : Int))] w fun e w' => ∃ a c, e = .returned (.slice a l.length c) ∧ OI w' w.heap.size (.slice a l.length c) (wds l) ∧ Below w.heap.size w w' := by
  have HS := hide h
  have HL := hide hl
  have h288 := hl.1
  obtain ⟨ao, cap, rfl, hlc, hcm⟩ := h.open
  clear h hl
  go_enter Tryz.func133, Tryz.ntmps133
  go_wp2_with (at_make; refine wpList_mkI rfl _ _ rfl _ _ _ _ l.length l.length rfl rfl rfl rfl (Nat.le_refl _) (by omega) ?_)
  intro w1 hg hb1
  have HW : Hid (Wst w l 0 w1) := by
    have hs : (w.alloc (.cells (av fun n => (fi l n : Int)) 161)).heap.size = w.heap.size + 1 := size_alloc' _ _
    (try rw [hs] at hg)
    (try rw [hs] at hb1)
    refine ⟨?_, ?_, ((Below.refl _ _).alloc (Nat.le_refl _) _).trans (hb1.mono (by omega))⟩
    · rw [hb1.block _ (by omega), heap_alloc_new]
      rw [av_congr fun i _ => ?_]
      simp [cn]
    · rw [hg, out_zero]; simp
  clear hg hb1
  (try simp only [size_alloc'])
  go_wp2
  go_loopw [13] (fun i wr => ∃ k : Nat, k ≤ l.length ∧ i = .int .i64 k ∧ Hid (Wst w l k wr)) (fun i _ => l.length - (intOf i).toNat)
  case atStart => exact ⟨0, Nat.zero_le _, rfl, HW⟩
  case round =>
    clear HW
    obtain ⟨k, hk, rfl, HT⟩ := hrel
    by_cases hlt : k < l.length
    · have hlt' : (k : Int) < (l.length : Int) := by omega
      obtain ⟨b, o, rfl, hc⟩ := HS.out.get HT.out.2.2 hlt
      obtain ⟨n, HN⟩ : ∃ n, Hid (ln l k = n) := ⟨_, rfl⟩
      have hn15 : n < 16 := by rw [← HN.out]; have := (HL.out.ln k).2; omega
      rw [(HL.out.ln k).1, HN.out] at hc
      by_cases h0 : n = 0
      · subst h0
        have HNX := hide (HT.out.zero hlt HN.out HL.out)
        go_wp2
        go_roundw
        case rel => exact ⟨k + 1, by omega, by go_num, HNX⟩
        case measure => simp [intOf]; omega
      · have h0' : (0 : Int) < n := by omega
        have c1 := HT.out.nx hn15
        obtain ⟨y, c2⟩ := HT.out.ou hlt
        have f1 : wr.frozen? ⟨w.heap.size + 1, k, none⟩ = false := frozen_of_row _ _ _ _ _ HT.out.2.1
        obtain ⟨x, HX⟩ : ∃ x, Hid (x = (fi l n : Int) + cn (l.take k) n) := ⟨_, rfl⟩
        rw [← HX.out] at c1
        have hx : 0 ≤ x ∧ x ≤ 100000000 := by
          have h1 := fi_top HL.out (n := n) (by omega)
          have h2 := cn_le (l.take k) n
          rw [List.length_take] at h2
          rw [HX.out]; omega
        have HNX := hide (HT.out.step hlt HN.out h0 HL.out x HX.out)
        have hne : w.heap.size ≠ w.heap.size + 1 := by omega
        have c3 : (wr.setCell ⟨w.heap.size + 1, k, none⟩ (.int .i64 x)).cell? ⟨w.heap.size, n, none⟩ = some (.int .i64 x) := by
          rw [World.cell?_of_block (setCell_others wr _ k _ _ hne)]; exact c1
        have f3 : (wr.setCell ⟨w.heap.size + 1, k, none⟩ (.int .i64 x)).frozen? ⟨w.heap.size, n, none⟩ = false := frozen_of_row _ _ _ _ _ ((setCell_others wr _ k _ _ hne).trans HT.out.1)
        clear HT
        go_wp2
        go_roundw
        case rel => exact ⟨k + 1, by omega, by go_num, HNX⟩
        case measure => simp [intOf]; omega
    · obtain rfl : k = l.length := by omega
      have hlt' : ¬ (l.length : Int) < (l.length : Int) := by omega
      go_wp2
      go_ret
      refine ⟨_, _, rfl, ?_, HT.out.2.2⟩
      have e := HT.out.2.1
      rw [out_end] at e
      have := OI.of_full (base := w.heap.size) e (by omega) (by rw [wds_len]; unfold maxLen; omega)
      rwa [wds_len] at this
end Go.Proofs.YtmjdpfigkojolaaGreatDoor

namespace Go.Proofs.YtmjdpfigkojolaaGreatDoor
open Go.RowKit Go.Maps
set_option maxRecDepth 20000

instance (l : List Int) : Decidable (Lens l) := by unfold Lens; exact inferInstance

def chkE (l : List Int) : Int := if 288 < l.length then 1 else if Lens l then 0 else 50
def chkS (l : List Int) : Int := if Lens l then shp l else 0

def okTo (l : List Int) (k : Nat) : Prop := ∀ i, i < k → 0 ≤ l.getD i 0 ∧ l.getD i 0 ≤ 15

theorem okTo_lens {l : List Int} (h : okTo l l.length) (h2 : l.length ≤ 288) : Lens l := by
  refine ⟨h2, fun x hx => ?_⟩
  obtain ⟨i, hi, rfl⟩ := List.getElem_of_mem hx
  have := h i hi
  rwa [show l.getD i 0 = l[i] by simp [hi]] at this

theorem okTo_succ {l : List Int} {k : Nat} (h : okTo l k) (hk : 0 ≤ l.getD k 0 ∧ l.getD k 0 ≤ 15) : okTo l (k + 1) := fun i hi => by
  by_cases e : i = k
  · subst e; exact hk
  · exact h i (by omega)

theorem not_lens {l : List Int} {k : Nat} (h : ¬ (0 ≤ l.getD k 0 ∧ l.getD k 0 ≤ 15)) : ¬ Lens l := fun hl => h (hl.at k)

theorem check_any (v : Value) (l : List Int) (w : World) (h : SI w v l) :
    Calls Tryz.prog 113 #[v] w fun e w' => e = .returned (.tuple #[.int .i64 (chkS l), .int .i64 (chkE l)]) ∧ Below w.heap.size w w' := by
  have HS := hide h
  obtain ⟨ao, cap, rfl, hlc, hcm⟩ := h.open
  clear h
  by_cases hlen : 288 < l.length
  · have hlen' : (288 : Int) < l.length := by omega
    have hn : ¬ Lens l := fun h => by have := h.1; omega
    have HE : Hid (chkE l = 1 ∧ chkS l = 0) := ⟨if_pos hlen, if_neg hn⟩
    clear hn
    go_enter Tryz.func113, Tryz.ntmps113
    go_wp2
    go_ret2
    rw [HE.out.1, HE.out.2]
    exact ⟨rfl, Below.refl _ _⟩
  have hlen' : ¬ (288 : Int) < l.length := by omega
  have HNL := hide hlen
  clear hlen
  go_enter Tryz.func113, Tryz.ntmps113
  go_wp2
  go_loopw [11] (fun i wr => ∃ k : Nat, k ≤ l.length ∧ i = .int .i64 k ∧ wr = w ∧ Hid (okTo l k)) (fun i _ => l.length - (intOf i).toNat)
  case atStart => exact ⟨0, Nat.zero_le _, rfl, rfl, fun i hi => by omega⟩
  case round =>
    obtain ⟨k, hk, rfl, rfl, HT⟩ := hrel
    by_cases hlt : k < l.length
    · have hlt' : (k : Int) < (l.length : Int) := by omega
      obtain ⟨b, o, rfl, hc⟩ := HS.out.get (Below.refl _ _) hlt
      obtain ⟨x, HX⟩ : ∃ x, Hid (x = l.getD k 0) := ⟨_, rfl⟩
      rw [← HX.out] at hc
      by_cases hb : 0 ≤ x ∧ x ≤ 15
      · have HN : Hid (okTo l (k + 1)) := okTo_succ HT.out (by rw [← HX.out]; exact hb)
        obtain ⟨b0, b1⟩ := hb
        have b0' : ¬ x < 0 := by omega
        have b1' : ¬ 15 < x := by omega
        clear HT
        go_wp2
        go_roundw
        case rel => exact ⟨k + 1, by omega, by go_num, by trivial, HN⟩
        case measure => simp [intOf]; omega
      · have hn : ¬ Lens l := not_lens (k := k) (by rw [← HX.out]; exact hb)
        have HE : Hid (chkE l = 50 ∧ chkS l = 0) := ⟨by unfold chkE; rw [if_neg HNL.out, if_neg hn], if_neg hn⟩
        clear hn
        by_cases b0 : x < 0
        · clear hb
          go_wp2
          go_ret2
          rw [HE.out.1, HE.out.2]
          exact ⟨rfl, Below.refl _ _⟩
        · have b1 : 15 < x := by omega
          clear hb
          go_wp2
          go_ret2
          rw [HE.out.1, HE.out.2]
          exact ⟨rfl, Below.refl _ _⟩
    · obtain rfl : k = l.length := by omega
      have hl : Lens l := okTo_lens HT.out (by have := HNL.out; omega)
      have HL := hide hl
      have HE : Hid (chkE l = 0 ∧ chkS l = shp l) := ⟨by unfold chkE; rw [if_neg HNL.out, if_pos hl], if_pos hl⟩
      have hlt' : ¬ (l.length : Int) < (l.length : Int) := by omega
      clear hl HT
      go_wp2_with fail
      refine (count_any _ l _ HS.out HL.out).mono ?_
      rintro e w1 ⟨rfl, hb1⟩
      have HB1 := hide hb1
      clear hb1
      go_wp2_with fail
      refine (shape_any l _ HL.out).mono ?_
      rintro e w2 ⟨rfl, hb2⟩
      have HB2 : Hid (Below wr.heap.size wr w2) := HB1.out.trans (hb2.mono HB1.out.size)
      clear hb2
      go_wp2
      go_ret2
      rw [HE.out.1, HE.out.2]
      exact ⟨rfl, HB2.out⟩

def cdE (l : List Int) : Int := if chkE l ≠ 0 then chkE l else if shp l = 3 then 51 else 0
def cdL (l : List Int) : List Int := if cdE l = 0 then wds l else []

theorem chkE_zero {l : List Int} (h : chkE l = 0) : Lens l ∧ chkS l = shp l := by
  unfold chkE at h
  by_cases h1 : 288 < l.length
  · rw [if_pos h1] at h; omega
  · rw [if_neg h1] at h
    by_cases h2 : Lens l
    · exact ⟨h2, if_pos h2⟩
    · rw [if_neg h2] at h; omega

end Go.Proofs.YtmjdpfigkojolaaGreatDoor

namespace Go.Proofs.YtmjdpfigkojolaaGreatDoor
open Go.RowKit Go.Maps
set_option maxRecDepth 20000
set_option linter.unusedVariables false

def zor : List Int := [16, 17, 18, 0, 8, 7, 9, 6, 10, 5, 11, 4, 12, 3, 13, 2, 14, 1, 15]
theorem zor_at : ∀ n : Nat, n < 19 → 0 ≤ zor.getD n 0 ∧ zor.getD n 0 < 19 := by decide

structure Odr (w : World) : Prop where
  get : ∀ i : Nat, i < 19 → w.cell? ⟨0, i, none⟩ = some (.int .i64 (zor.getD i 0))

theorem Odr.mono {w w' : World} (h : Odr w) (hb : Below w.heap.size w w') : Odr w' := ⟨fun i hi => (hb.cell (World.block_lt_of_cell? w _ (h.get i hi))).trans (h.get i hi)⟩

def hck (l d : List Int) : Int := if l.getD 256 0 = 0 ∨ (chkS l ≠ 4 ∧ chkS l ≠ 1) then 75 else if chkS d ≠ 4 ∧ chkS d ≠ 1 ∧ chkS d ≠ 0 then 76 else 0

set_option maxHeartbeats 1000000 in
theorem hcheck_any (v1 v2 : Value) (l1 l2 : List Int) (w : World) (s1 : SI w v1 l1) (s2 : SI w v2 l2) (hl : 257 ≤ l1.length) :
    Calls Tryz.prog 92 #[v1, v2] w fun e w' => e = .returned (.int .i64 (hck l1 l2)) ∧ Below w.heap.size w w' := by
  have H1 := hide s1
  have H2 := hide s2
  obtain ⟨a1, c1, rfl, hc1, hd1⟩ := s1.open
  obtain ⟨a2, c2, rfl, hc2, hd2⟩ := s2.open
  clear s1 s2
  have hl' : (256 : Int) < (l1.length : Int) := by omega
  go_enter Tryz.func92, Tryz.ntmps92
  go_wp2_with fail
  refine (check_any _ l1 w H1.out).mono ?_
  rintro e w1 ⟨rfl, b1⟩
  obtain ⟨b, o, rfl, hc⟩ := H1.out.get b1 (k := 256) (by omega)
  have HB1 := hide b1
  have H21 := hide (H2.out.below b1)
  have HK : Hid (hck l1 l2 = if l1.getD 256 0 = 0 ∨ (chkS l1 ≠ 4 ∧ chkS l1 ≠ 1) then 75 else if chkS l2 ≠ 4 ∧ chkS l2 ≠ 1 ∧ chkS l2 ≠ 0 then 76 else 0) := rfl
  obtain ⟨y, HY⟩ : ∃ y, Hid (y = l1.getD 256 0) := ⟨_, rfl⟩
  obtain ⟨S, HSS⟩ : ∃ S, Hid (S = chkS l1) := ⟨_, rfl⟩
  rw [← HY.out] at hc HK
  rw [← HSS.out] at HK ⊢
  clear b1
  by_cases y0 : y = 0
  · have HR : Hid (hck l1 l2 = 75) := by show _ = _; rw [HK.out, if_pos (.inl y0)]
    subst y0
    go_wp2
    go_ret
    rw [HR.out]
    exact ⟨rfl, HB1.out⟩
  · have y0' : (y == 0) = false := by simpa using y0
    by_cases sok : S = 4 ∨ S = 1
    · have HK2 : Hid (hck l1 l2 = if chkS l2 ≠ 4 ∧ chkS l2 ≠ 1 ∧ chkS l2 ≠ 0 then 76 else 0) := by show _ = _; rw [HK.out, if_neg (by omega)]
      have HCK := hide (check_any _ l2 w1 H21.out)
      obtain ⟨U, HU⟩ : ∃ U, Hid (U = chkS l2) := ⟨_, rfl⟩
      rw [← HU.out] at HK2 HCK
      have tail : ∀ (Z : Prop), Z → Z := fun _ z => z
      rcases sok with rfl | rfl
      all_goals
        go_wp2_with fail
        refine HCK.out.mono ?_
        rintro e w2 ⟨rfl, b2⟩
        have HB2 := hide (HB1.out.trans (b2.mono HB1.out.size))
        clear b2
        by_cases u4 : U = 4
        · have HR : Hid (hck l1 l2 = 0) := by show _ = _; rw [HK2.out, if_neg (by omega)]
          subst u4
          go_wp2
          go_ret
          rw [HR.out]
          exact ⟨rfl, HB2.out⟩
        · have u4' : (U != 4) = true := by simpa using u4
          by_cases u1 : U = 1
          · have HR : Hid (hck l1 l2 = 0) := by show _ = _; rw [HK2.out, if_neg (by omega)]
            subst u1
            go_wp2
            go_ret
            rw [HR.out]
            exact ⟨rfl, HB2.out⟩
          · have u1' : (U != 1) = true := by simpa using u1
            by_cases u0 : U = 0
            · have HR : Hid (hck l1 l2 = 0) := by show _ = _; rw [HK2.out, if_neg (by omega)]
              subst u0
              go_wp2
              go_ret
              rw [HR.out]
              exact ⟨rfl, HB2.out⟩
            · have u0' : (U != 0) = true := by simpa using u0
              have HR : Hid (hck l1 l2 = 76) := by show _ = _; rw [HK2.out, if_pos ⟨u4, u1, u0⟩]
              go_wp2
              go_ret
              rw [HR.out]
              exact ⟨rfl, HB2.out⟩
    · have s4 : (S != 4) = true := by simp; omega
      have s1 : (S != 1) = true := by simp; omega
      have HR : Hid (hck l1 l2 = 75) := by show _ = _; rw [HK.out, if_pos (.inr (by omega))]
      go_wp2
      go_ret
      rw [HR.out]
      exact ⟨rfl, HB1.out⟩

end Go.Proofs.YtmjdpfigkojolaaGreatDoor

