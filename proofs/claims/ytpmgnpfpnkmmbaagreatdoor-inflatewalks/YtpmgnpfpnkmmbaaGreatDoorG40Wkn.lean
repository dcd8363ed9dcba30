import Derived.Test.YtpmgnpfpnkmmbaaGreatDoorG38Frm
import Derived.Test.YtpmgnpfpnkmmbaaGreatDoorG32Vac
namespace Go.Proofs.YtpmgnpfpnkmmbaaGreatDoor
open Go.RowKit Go.Maps
set_option maxRecDepth 20000
set_option linter.unusedVariables false

/-- A block as a value. -/
def pcq (b : Pc) : Array Value := #[.int .i64 b.kind, .bool b.fin, .int .i64 b.at0, .int .i64 b.at1, .int .i64 b.to0, .int .i64 b.to1]

/-- What Walk answers, in numbers. -/
def Wlk (data : List Int) (limit E : Int) (R : List Pc) : Prop :=
  (¬ (data.length ≤ 33554432 ∧ 0 ≤ limit ∧ limit ≤ 16777216) ∧ E = 1 ∧ R = []) ∨
  ((data.length ≤ 33554432 ∧ 0 ≤ limit ∧ limit ≤ 16777216) ∧ ∃ ps q o', Txt (unpack data) limit.toNat 0 [] ps E q o' ∧ ((E = 0 ∧ R = ps) ∨ (E ≠ 0 ∧ R = [])))

theorem Wlk.det {data : List Int} {limit e : Int} {R : List Pc} (h : Wlk data limit e R) {e' : Int} {R' : List Pc} (h' : Wlk data limit e' R') : e = e' ∧ R = R' := by
  rcases h with ⟨a, rfl, rfl⟩ | ⟨a, ps, q, x, t, r⟩ <;> rcases h' with ⟨a', rfl, rfl⟩ | ⟨a', ps', q', x', t', r'⟩
  · exact ⟨rfl, rfl⟩
  · exact absurd a' a
  · exact absurd a a'
  · obtain ⟨rfl, rfl, rfl, rfl⟩ := t.det t'
    rcases r with ⟨c, rfl⟩ | ⟨c, rfl⟩ <;> rcases r' with ⟨c', rfl⟩ | ⟨c', rfl⟩
    · exact ⟨rfl, rfl⟩
    · exact absurd c c'
    · exact absurd c' c
    · exact ⟨rfl, rfl⟩

def Wans (w : World) (l : List Int) (limit : Int) (e : Ending) (w' : World) : Prop :=
  ∃ E R a c, Wlk l limit E R ∧ e = .returned (.tuple #[.slice a R.length c, .int .i64 E]) ∧ ORp 54 6 w' w.heap.size (.slice a R.length c) (R.map pcq) ∧ Below w.heap.size w w' ∧ R.length ≤ 268435456

theorem orp_up {w : World} {v : Value} {R : List (Array Value)} {B T n : Nat} (h : ORp T n w 0 v R) (hk : ∀ k, v.ownBlock = some k → B ≤ k) : ORp T n w B v R := by
  obtain ⟨hs, h0, h1⟩ := h
  refine ⟨hs, h0, ?_⟩
  rcases h1 with h1 | ⟨g, cap, cur, rfl, h2, h3⟩
  · exact .inl h1
  · exact .inr ⟨g, cap, cur, rfl, hk g rfl, h3⟩

/-- How the blocks that are read so far lead to what Walk answers. -/
def Wdg (row : List Int) (L p : Nat) (out : List Int) (dn : Bool) (pre : List Pc) : Prop :=
  (dn = false ∧ ∀ ps E q o, Txt row L p out ps E q o → Txt row L 0 [] (pre ++ ps) E q o) ∨ (dn = true ∧ Txt row L 0 [] pre 0 p out)

theorem Wdg.step {row : List Int} {L p : Nat} {out : List Int} {pre : List Pc} {f : Bool} {k : Int} {q : Nat} {o : List Int} (h : Wdg row L p out false pre) (hb : Blk row L p out 0 f k q o) : Wdg row L q o f (pre ++ [⟨k, f, p, q, out.length, o.length⟩]) := by
  rcases h with ⟨_, h⟩ | ⟨h, _⟩
  · cases f with
    | false => exact .inl ⟨rfl, fun ps E q' o' ht => by rw [List.append_assoc]; exact h _ _ _ _ (Txt.go hb ht)⟩
    | true => exact .inr ⟨rfl, h _ _ _ _ (Txt.last hb)⟩
  · cases h

theorem Wdg.bad {row : List Int} {L p : Nat} {out : List Int} {pre : List Pc} {f : Bool} {k : Int} {q : Nat} {o : List Int} {E : Int} (h : Wdg row L p out false pre) (hb : Blk row L p out E f k q o) (he : E ≠ 0) : ∃ ps q' o', Txt row L 0 [] ps E q' o' := by
  rcases h with ⟨_, h⟩ | ⟨h, _⟩
  · exact ⟨_, _, _, h _ _ _ _ (Txt.bad hb he)⟩
  · cases h

theorem Txt.count {row : List Int} {L p : Nat} {out : List Int} {ps : List Pc} {e : Int} {q : Nat} {o : List Int} (hb : Bit row) (h : Txt row L p out ps e q o) : e = 0 → ps.length + p ≤ q ∧ q ≤ row.length := by
  induction h with
  | bad h1 h2 => exact fun e => absurd e h2
  | last h1 => intro _; have := h1.lt hb rfl; simp only [List.length_singleton]; omega
  | go h1 h2 ih => intro e; have := h1.lt hb rfl; have := ih e; simp only [List.length_cons]; omega

/-- A list of blocks in a herd. -/
def tpq (v : Value) (R : List (Array Value)) : Thing :=
  ⟨fun w K => ORp 54 6 w 0 v R ∧ (∀ k, v.ownBlock = some k → K k ≠ 0) ∧ ∀ k, K k ≠ 0 → k < w.heap.size,
   fun h a b => ⟨h.1.move fun k hk => b k (h.2.1 k hk), h.2.1, fun k hk => Nat.lt_of_lt_of_le (h.2.2 k hk) a⟩, fun h => h.2.2⟩

/-- A list of blocks is no decoder. -/
theorem td_tpq {w : World} {K : Nat → Nat} {v : Value} {R : List (Array Value)} {gl : Nat} {l : List Int} (h : (tpq v R).P w K) : tpq v R ≠ td gl l := by
  intro e
  have hd : Dp w K gl l := by
    have : (td gl l).P w K := by rw [← e]; exact h
    exact this
  obtain ⟨vl, vw, vs, sy, a1, _⟩ := hd.d
  have hbg : v.ownBlock ≠ some gl := fun e => by
    rcases h.1.2.2 with ⟨rfl, _⟩ | ⟨g, cap, cur, rfl, _, h2, _⟩
    · simp [Value.ownBlock] at e
    · simp only [Value.ownBlock, Option.some.injEq] at e
      subst e
      rw [a1] at h2
      injection h2 with h2
      injection h2 with _ h2
      exact absurd h2 (by decide)
  have hgs : gl < w.heap.size := by
    rcases Nat.lt_or_ge gl w.heap.size with q | q
    · exact q
    · rw [Array.getElem?_eq_none q] at a1; cases a1
  have h3 : (tpq v R).P { w with heap := w.heap.setIfInBounds gl (.cells #[] 54 (0, 0)) } K :=
    ⟨h.1.move fun k hk => by show (w.heap.setIfInBounds gl _)[k]? = _; rw [Array.getElem?_setIfInBounds_ne (fun e => hbg (by rw [hk, e]))], h.2.1, fun k hk => by show k < (w.heap.setIfInBounds gl _).size; rw [Array.size_setIfInBounds]; exact h.2.2 k hk⟩
  rw [e] at h3
  have hd2 : Dp { w with heap := w.heap.setIfInBounds gl (.cells #[] 54 (0, 0)) } K gl l := h3
  obtain ⟨vl', vw', vs', sy', a1', _⟩ := hd2.d
  have a2 : (w.heap.setIfInBounds gl (.cells #[] 54 (0, 0)))[gl]? = _ := a1'
  rw [Array.getElem?_setIfInBounds_self_of_lt hgs] at a2
  injection a2 with a2
  injection a2 with _ h2
  exact absurd h2 (by decide)

/-- A cell below the herd is written. -/
theorem Herd.under {W w : World} {xs : List ((Nat → Nat) × Thing)} (H : Herd W w xs) {b : Nat} (hb : b < W.heap.size) (k : Nat) (u : Value) : Herd (W.setCell ⟨b, k, none⟩ u) (w.setCell ⟨b, k, none⟩ u) xs := by
  have hm : ∀ j, j ≠ b → (w.setCell ⟨b, k, none⟩ u).heap[j]? = w.heap[j]? := fun j hj => setCell_others w b k u j hj
  refine ⟨⟨H.bel.os, H.bel.tape, H.bel.output, by rw [size_setCell, size_setCell]; exact H.bel.size, fun j hj => ?_⟩, fun i d hd => d.2.far (H.rep i d hd) (by rw [size_setCell]; exact Nat.le_refl _) (fun j hj => hm j (fun e => by have := H.up i d hd j hj; omega)), fun i d hd j hj => by rw [size_setCell]; exact H.up i d hd j hj, H.sep⟩
  rw [size_setCell] at hj
  have e0 := H.bel.block j hj
  by_cases e : j = b
  · subst e
    simp only [World.setCell, Array.getElem?_modify, e0]
  · rw [hm j e, setCell_others W b k u j e]; exact e0

theorem TX.under {W w : World} {g r : Nat} {row : List Int} {p L : Nat} {out : List Int} {dn : Bool} {ys : List ((Nat → Nat) × Thing)} (H : TX W w g r row p L out dn ys) {b : Nat} (hb : b < W.heap.size) (k : Nat) (u : Value) : TX (W.setCell ⟨b, k, none⟩ u) (w.setCell ⟨b, k, none⟩ u) g r row p L out dn ys := by
  obtain ⟨Kt, Kr, Ko, a, c, fl, fd, HH, hf, hk⟩ := H
  exact ⟨Kt, Kr, Ko, a, c, fl, fd, HH.under hb k u, hf, hk⟩

theorem TX.pcs {W w : World} {g r : Nat} {row : List Int} {p L : Nat} {out : List Int} {dn : Bool} {K : Nat → Nat} {v : Value} {R : List (Array Value)} {ys : List ((Nat → Nat) × Thing)} (H : TX W w g r row p L out dn ((K, tpq v R) :: ys)) : ORp 54 6 w W.heap.size v R := by
  obtain ⟨Kt, Kr, Ko, a, c, fl, fd, HH, hf, hk⟩ := H
  have h3 : (tpq v R).P w K := HH.rep 3 _ rfl
  exact orp_up h3.1 fun k hk => HH.up 3 _ rfl k (h3.2.1 k hk)

/-- The list of blocks grows. -/
theorem TX.pgrow {W w w1 w6 : World} {g r : Nat} {row : List Int} {p L : Nat} {out : List Int} {dn : Bool} {K : Nat → Nat} {v : Value} {R R' : List (Array Value)} {ys : List ((Nat → Nat) × Thing)} (H : TX W w g r row p L out dn ((K, tpq v R) :: ys)) (hb : Below w.heap.size w w1)
    {b n cap : Nat} (ho : ORp 54 6 w6 0 (.slice (some ⟨b, 0, none⟩) n cap) R') (hg : w1.grownBy w6 v.ownBlock) (hat : v.ownBlock = some b ∨ b = w1.heap.size) :
    ∃ K', TX W w6 g r row p L out dn ((K', tpq (.slice (some ⟨b, 0, none⟩) n cap) R') :: ys) := by
  obtain ⟨Kt, Kr, Ko, a, c, fl, fd, HH, hf, hk⟩ := H
  have H1 := HH.below hb
  have hp : (tpq v R).P w1 K := H1.rep 3 _ rfl
  have h4 := H1.op 3 rfl (x' := tpq (.slice (some ⟨b, 0, none⟩) n cap) R') (K' := fun k => if k < w1.heap.size then K k else if b = k then 1 else 0) (w' := w6) ⟨ho, fun k hk => ?_, fun k hk => ?_⟩ ⟨hg.os, hg.tape, hg.output, hg.size, fun k hk h0 => hg.block k hk (fun e => hp.2.1 k e.symm h0), fun k hk => by simp [hk]⟩
  · simp only [List.set_cons_succ, List.set_cons_zero] at h4
    refine ⟨_, Kt, Kr, Ko, a, c, fl, fd, h4, ?_, hk⟩
    rcases hf with hf | ⟨gl, gd, i, j, Kl, Kd, h1, h2, h3, h4⟩
    · exact .inl hf
    · have hne : ∀ {q : Nat} {l : List Int} {K2 : Nat → Nat}, (K, tpq v R) ≠ (K2, td q l) := fun e => by injection e with _ e; exact td_tpq hp e
      exact .inr ⟨gl, gd, i, j, Kl, Kd, h1, h2, get_over (ys := []) h3 hne, get_over (ys := []) h4 hne⟩
  · have hk' : b = k := by injection hk
    subst hk'
    by_cases c0 : b < w1.heap.size
    · simp only [c0, if_true]
      rcases hat with e | e
      · exact hp.2.1 b e
      · omega
    · simp [c0]
  · by_cases c0 : k < w1.heap.size
    · exact Nat.lt_of_lt_of_le c0 hg.size
    · simp only [c0, if_false] at hk
      by_cases c1 : b = k
      · subst c1
        exact (ho.lt b rfl).2
      · simp [c1] at hk
end Go.Proofs.YtpmgnpfpnkmmbaaGreatDoor

