import Derived.Test.YtklffkbcigehfabOwn2
namespace Go.Proofs.Ytklffkbcigehfab
open Go.RowKit Go.Maps
set_option maxRecDepth 20000

theorem row_move {w w' : World} {base : Nat} {e : TypeId} {size : Nat} {v : Value} {n : Nat} {xs : List Value} (h : w.ownsRow base e size v n xs) (hb : ∀ k, v.ownBlock = some k → w'.heap[k]? = w.heap[k]?) : w'.ownsRow base e size v n xs := by
  refine ⟨h.1, ?_⟩
  rcases h.2 with h2 | ⟨g, cap, cur, rfl, h1, h2, r⟩
  · exact .inl h2
  · exact .inr ⟨g, cap, cur, rfl, h1, (hb g rfl).trans h2, r⟩

def flat (es : List He) : List Value := es.flatMap He.cells

theorem flat_snoc (es : List He) (e : He) : flat (es ++ [e]) = flat es ++ e.cells := by simp [flat]

theorem flat_get {e : He} : ∀ {es : List He} {i : Nat}, es[i]? = some e → ∀ j, j < 3 → (flat es)[i * 3 + j]? = e.cells[j]?
  | a :: r, 0, h, j, hj => by
    simp only [List.getElem?_cons_zero, Option.some.injEq] at h
    subst h
    unfold flat
    rw [List.flatMap_cons, List.getElem?_append_left (by simp [He.cells]; omega)]
    simp
  | a :: r, i + 1, h, j, hj => by
    simp only [List.getElem?_cons_succ] at h
    have ih := flat_get (es := r) h j hj
    unfold flat at ih ⊢
    rw [List.flatMap_cons, List.getElem?_append_right (by simp [He.cells]; omega)]
    rw [show (i + 1) * 3 + j - a.cells.length = i * 3 + j by simp [He.cells]; omega]
    exact ih

/-- The book. -/
def tk (v : Value) (es : List He) : Thing :=
  ⟨fun w K => w.ownsRow 0 32 3 v es.length (flat es) ∧ (∀ k, v.ownBlock = some k → K k ≠ 0) ∧ ∀ k, K k ≠ 0 → k < w.heap.size,
   fun h a b => ⟨row_move h.1 fun k hk => b k (h.2.1 k hk), h.2.1, fun k hk => Nat.lt_of_lt_of_le (h.2.2 k hk) a⟩, fun h => h.2.2⟩

theorem tk_shape {w : World} {K : Nat → Nat} {v : Value} {es : List He} (h : (tk v es).P w K) : ∃ a c, v = .slice a es.length c := by
  have h1 : w.ownsRow 0 32 3 v es.length (flat es) := h.1
  rcases h1.2 with ⟨rfl, h0⟩ | ⟨g, cap, cur, rfl, _⟩
  · exact ⟨none, 0, by rw [h0]⟩
  · exact ⟨_, _, rfl⟩

theorem hbook {W w : World} {xs : List ((Nat → Nat) × Thing)} (H : Herd W w xs) (i : Nat) {K : Nat → Nat} {v : Value} {es : List He} (hi : xs[i]? = some (K, tk v es)) (ha : ∀ (j : Nat) (e : He), es[j]? = some e → ∃ (n : Nat) (K : Nat → Nat), xs[n]? = some (K, th e)) : Book w v es := by
  have h : (tk v es).P w K := H.rep i _ hi
  have h1 : w.ownsRow 0 32 3 v es.length (flat es) := h.1
  have hc := @World.ownsRow.cells _ _ _ _ _ _ _ h1
  rcases h1.2 with ⟨rfl, h0⟩ | ⟨g, cap, cur, rfl, _, _, h3, h4, _, _⟩
  · have : es = [] := List.eq_nil_of_length_eq_zero h0
    subst this
    exact ⟨none, 0, rfl, Nat.le_refl _, Nat.zero_le _, fun i e he => by simp at he⟩
  · refine ⟨_, cap, rfl, h3, h4, fun j e he => ?_⟩
    obtain ⟨n, Kn, hn⟩ := ha j e he
    have hp : (th e).P w Kn := H.rep n _ hn
    have q : ∀ t, t < 3 → ∀ u, e.cells[t]? = some u → w.cell? ⟨g, j * 3 + t, none⟩ = some u := fun t ht u hu => by
      have := hc (g := g) rfl (j * 3 + t) u ((flat_get he t ht).trans hu)
      rw [Addr.add_lit, Nat.zero_add] at this
      exact this
    exact ⟨hp.1, g, rfl, q 0 (by omega) _ rfl, q 1 (by omega) _ rfl, q 2 (by omega) _ rfl⟩

/-- What an append onto the book leaves. -/
theorem Herd.bookApp {W w w' : World} {xs : List ((Nat → Nat) × Thing)} (H : Herd W w xs) (i : Nat) {K : Nat → Nat} {v : Value} {es : List He} (hi : xs[i]? = some (K, tk v es)) {o : Obj} {e : He} {g cap : Nat}
    (hown : w'.ownsRow 0 32 3 (.slice (some ⟨g, 0, none⟩) (es.length + 1) cap) (es.length + 1) (flat es ++ e.cells)) (hg : (w.alloc o).grownBy w' v.ownBlock) (hat : v.ownBlock = some g ∨ g = w.heap.size + 1) (hlt : g < w'.heap.size) :
    ∃ K', Herd W w' (xs.set i (K', tk (.slice (some ⟨g, 0, none⟩) (es.length + 1) cap) (es ++ [e]))) := by
  have h : (tk v es).P w K := H.rep i _ hi
  have hs := hg.size
  rw [size_alloc'] at hs
  refine ⟨fun k => if k < w.heap.size then K k else if k = g then 1 else 0, H.op i hi (x' := tk _ (es ++ [e])) ⟨?_, fun k hk => ?_, fun k hk => ?_⟩ ⟨hg.os, hg.tape, hg.output, by omega, fun k hk h0 => ?_, fun k hk => by simp only [if_pos hk]⟩⟩
  · rw [flat_snoc, List.length_append]
    exact hown
  · simp only [Value.ownBlock, Option.some.injEq] at hk
    have hk' : g = k := by simpa using hk
    subst hk'
    by_cases hgl : g < w.heap.size
    · simp only [if_pos hgl]
      rcases hat with e1 | e1
      · exact h.2.1 g e1
      · omega
    · simp [hgl]
  · by_cases hkl : k < w.heap.size
    · omega
    · simp only [if_neg hkl] at hk
      by_cases e1 : k = g
      · omega
      · simp [e1] at hk
  · rw [hg.block k (by rw [size_alloc']; omega) (fun e1 => h.2.1 k e1.symm h0)]
    exact Below.heap_alloc w o k hk

theorem set_at {α : Type} (xs : List α) (y z : α) (ys : List α) : (xs ++ y :: ys).set xs.length z = xs ++ z :: ys := by
  induction xs with
  | nil => rfl
  | cons a r ih => simp only [List.cons_append, List.length_cons, List.set_cons_succ, ih]

theorem get_at {α : Type} (xs : List α) (y : α) (ys : List α) : (xs ++ y :: ys)[xs.length]? = some y := by simp

/-- A list of the herd is written full of its mark. -/
theorem hhold {W w : World} {xs ys : List ((Nat → Nat) × Thing)} {K : Nat → Nat} {v : Value} {l : List Int} (H : Herd W w (xs ++ (K, tl v l) :: ys)) (m : Int) (hm0 : 0 ≤ m) (hm1 : m < 256) (hl : l.length ≤ 1048577) :
    Calls Try.prog 13 #[v, .int .u8 m] w fun e w' => ∃ M K', e = .returned (.agg #[v, M, .int .u8 m]) ∧ (∃ a c, M = .slice a (l.length + 1) c) ∧ Herd W w' (xs ++ (K', th ⟨v, M, l.length, m⟩) :: ys) := by
  have hi := get_at xs (K, tl v l) ys
  have h : (tl v l).P w K := H.rep _ _ hi
  refine (hold_any v l m 0 w h.1 hl (Nat.zero_le _) hm0 hm1).mono ?_
  rintro e w1 ⟨M, rfl, hp, hg, hM⟩
  refine ⟨M, fun k => if k < w.heap.size then K k else if M.ownBlock = some k then 1 else 0, rfl, ?_, ?_⟩
  · obtain ⟨a, c, e⟩ := hp.r.len
    refine ⟨a, c, ?_⟩
    rw [He.more_len] at e
    exact e
  rw [← set_at xs (K, tl v l) _ ys]
  refine H.op _ hi (x' := th _) ⟨hp, fun k hk => ?_, fun k hk => ?_, fun k hk => ?_⟩ ⟨hg.os, hg.tape, hg.output, hg.size, fun k hk h0 => hg.block k hk (fun e1 => h.2.1 k e1.symm h0), fun k hk => by simp only [if_pos hk]⟩
  · have hlt := (h.1.lt k hk).2
    simp only [if_pos hlt]
    exact h.2.1 k hk
  · by_cases hkl : k < w.heap.size
    · simp only [if_pos hkl]
      rcases (hM k hk).2 with e1 | e1
      · exact h.2.1 k e1
      · omega
    · have hk' : M.ownBlock = some k := hk
      simp [hkl, hk']
  · by_cases hkl : k < w.heap.size
    · have := hg.size; omega
    · simp only [if_neg hkl] at hk
      by_cases e1 : M.ownBlock = some k
      · exact (hM k e1).1
      · simp [e1] at hk

/-- An append onto a list of the herd. -/
theorem Herd.app {W w w' : World} {xs : List ((Nat → Nat) × Thing)} (H : Herd W w xs) (i : Nat) {K : Nat → Nat} {v v' : Value} {l l' : List Int} (hi : xs[i]? = some (K, tl v l)) (ho : OB w' 0 v' l') (hgr : Grew w w' v v') : ∃ K', Herd W w' (xs.set i (K', tl v' l')) := by
  have h : (tl v l).P w K := H.rep i _ hi
  have hg := hgr.by
  refine ⟨fun k => if k < w.heap.size then K k else if v'.ownBlock = some k then 1 else 0, H.op i hi (x' := tl v' l') ⟨ho, fun k hk => ?_, fun k hk => ?_⟩ ⟨hg.os, hg.tape, hg.output, hg.size, fun k hk h0 => hg.block k hk (fun e1 => h.2.1 k e1.symm h0), fun k hk => by simp only [if_pos hk]⟩⟩
  · by_cases hkl : k < w.heap.size
    · simp only [if_pos hkl]
      rcases hgr.at with e1 | e1
      · rw [hk] at e1
        simp at e1; omega
      · exact h.2.1 k (e1.symm.trans hk)
    · simp [hkl, hk]
  · by_cases hkl : k < w.heap.size
    · have := hg.size; omega
    · simp only [if_neg hkl] at hk
      by_cases e1 : v'.ownBlock = some k
      · exact (ho.lt k e1).2
      · simp [e1] at hk

/-- What owns nothing may stand in front. -/
theorem Herd.front {W w : World} {xs : List ((Nat → Nat) × Thing)} (H : Herd W w xs) {x : Thing} (hx : x.P w fun _ => 0) : Herd W w ((fun _ => 0, x) :: xs) := by
  refine ⟨H.bel, fun i d hd => ?_, fun i d hd => ?_, fun i j d e hd he hne k hk => ?_⟩
  · cases i with
    | zero => simp at hd; subst hd; exact hx
    | succ i => exact H.rep i d (by simpa using hd)
  · cases i with
    | zero => simp at hd; subst hd; intro k hk; exact absurd rfl hk
    | succ i => exact H.up i d (by simpa using hd)
  · cases i with
    | zero => simp at hd; subst hd; exact absurd rfl hk
    | succ i =>
      cases j with
      | zero => simp at he; subst he; rfl
      | succ j => exact H.sep i j d e (by simpa using hd) (by simpa using he) (by omega) k hk

theorem tl_nil (w : World) : (tl (.slice none 0 0) []).P w fun _ => 0 := ⟨World.ownsRow_nil _ _ _ _, fun k hk => by simp [Value.ownBlock] at hk, fun k hk => absurd rfl hk⟩

theorem tk_nil (w : World) : (tk (.slice none 0 0) []).P w fun _ => 0 := ⟨World.ownsRow_nil _ _ _ _, fun k hk => by simp [Value.ownBlock] at hk, fun k hk => absurd rfl hk⟩

/-- A herd without its last ones. -/
theorem Herd.cut {W w : World} {xs ys : List ((Nat → Nat) × Thing)} (h : Herd W w (xs ++ ys)) : Herd W w xs := by
  have e : ∀ (i : Nat) (d : (Nat → Nat) × Thing), xs[i]? = some d → (xs ++ ys)[i]? = some d := fun i d hd => by
    rw [List.getElem?_append_left (List.getElem?_eq_some_iff.1 hd).1]; exact hd
  exact ⟨h.bel, fun i d hd => h.rep i d (e i d hd), fun i d hd => h.up i d (e i d hd), fun i j d d' hd hd' => h.sep i j d d' (e i d hd) (e j d' hd')⟩

/-- A herd without its first. -/
theorem Herd.rest {W w : World} {xs : List ((Nat → Nat) × Thing)} {y : (Nat → Nat) × Thing} (h : Herd W w (y :: xs)) : Herd W w xs :=
  ⟨h.bel, fun i d hd => h.rep (i + 1) d (by simpa using hd), fun i d hd => h.up (i + 1) d (by simpa using hd), fun i j d d' hd hd' hne => h.sep (i + 1) (j + 1) d d' (by simpa using hd) (by simpa using hd') (by omega)⟩

/-- The last comes behind the third. -/
theorem Herd.rot {W w : World} {T : List ((Nat → Nat) × Thing)} {a b c r : (Nat → Nat) × Thing} (h : Herd W w (a :: b :: c :: (T ++ [r]))) : Herd W w (a :: b :: c :: r :: T) := by
  have e : ∀ (i : Nat) (d : (Nat → Nat) × Thing), (a :: b :: c :: r :: T)[i]? = some d → (a :: b :: c :: (T ++ [r]))[if i = 3 then 3 + T.length else if i < 3 then i else i - 1]? = some d := fun i d hd => by
    match i, hd with
    | 0, hd => exact hd
    | 1, hd => exact hd
    | 2, hd => exact hd
    | 3, hd =>
      have hd' : r = d := by simpa using hd
      subst hd'
      rw [if_pos rfl, show 3 + T.length = T.length + 1 + 1 + 1 by omega]
      simp only [List.getElem?_cons_succ]
      exact get_at T r []
    | i + 4, hd =>
      have hd' : T[i]? = some d := by simpa using hd
      rw [if_neg (by omega), if_neg (by omega), show i + 4 - 1 = i + 1 + 1 + 1 by omega]
      simp only [List.getElem?_cons_succ]
      rw [List.getElem?_append_left (List.getElem?_eq_some_iff.1 hd').1]
      exact hd'
  refine ⟨h.bel, fun i d hd => h.rep _ d (e i d hd), fun i d hd => h.up _ d (e i d hd), fun i j d d' hd hd' hne => h.sep _ _ d d' (e i d hd) (e j d' hd') ?_⟩
  have hi := (List.getElem?_eq_some_iff.1 hd).1
  have hj := (List.getElem?_eq_some_iff.1 hd').1
  simp only [List.length_cons] at hi hj
  intro e2
  apply hne
  by_cases a1 : i = 3 <;> by_cases a2 : j = 3 <;> by_cases a3 : i < 3 <;> by_cases a4 : j < 3 <;> simp only [a1, a2, a3, a4, if_true, if_false] at e2 <;> omega

def hz (hs : List ((Nat → Nat) × He)) : List ((Nat → Nat) × Thing) := hs.map fun p => (p.1, th p.2)
def ez (hs : List ((Nat → Nat) × He)) : List He := hs.map (·.2)

theorem hz_snoc (hs : List ((Nat → Nat) × He)) (K : Nat → Nat) (e : He) : hz (hs ++ [(K, e)]) = hz hs ++ [(K, th e)] := by simp [hz]
theorem ez_snoc (hs : List ((Nat → Nat) × He)) (K : Nat → Nat) (e : He) : ez (hs ++ [(K, e)]) = ez hs ++ [e] := by simp [ez]
theorem hz_len (hs : List ((Nat → Nat) × He)) : (hz hs).length = hs.length := by simp [hz]
theorem ez_len (hs : List ((Nat → Nat) × He)) : (ez hs).length = hs.length := by simp [ez]

theorem hz_has {xs ys : List ((Nat → Nat) × Thing)} {hs : List ((Nat → Nat) × He)} : ∀ (j : Nat) (e : He), (ez hs)[j]? = some e → ∃ (n : Nat) (K : Nat → Nat), (xs ++ hz hs ++ ys)[n]? = some (K, th e) := fun j e he => by
  unfold ez at he
  rw [List.getElem?_map] at he
  obtain ⟨p, hp, rfl⟩ := Option.map_eq_some_iff.1 he
  refine ⟨xs.length + j, p.1, ?_⟩
  have hj := (List.getElem?_eq_some_iff.1 hp).1
  rw [List.getElem?_append_left (by rw [List.length_append, hz_len]; omega), List.getElem?_append_right (by omega), show xs.length + j - xs.length = j by omega]
  unfold hz
  rw [List.getElem?_map, hp]
  rfl

theorem infoHeld : (Try.prog.info? 32).map (fun i => (i.zero, i.size, i.bytes)) = some (some (.agg #[.slice none 0 0, .slice none 0 0, .int .u8 0]), 3, 56) := by kernel_rfl

/-- An append onto the book, of what was held. -/
theorem wpList_book {W w : World} {ops : Array Oper} {rest : List Oper} {o : Oper} {a : Act} {Q : Exit → Act → World → Prop} (hgd : o.guard = none) (s x : Operand)
    (ho : o.op = .call { callee := .builtin .append, args := #[s, x], argTypes := #[26, 26] }) {xs : List ((Nat → Nat) × Thing)} (H : Herd W w xs) (i : Nat) {K : Nat → Nat} {v : Value} {es : List He} (hi : xs[i]? = some (K, tk v es)) (e : He)
    (c : Nat) (hs : a.eval s = v) (hx : a.eval x = .slice (some ⟨w.heap.size, 0, none⟩) 1 c) (hn : es.length ≤ 100000000) (hL : e.L.oneCell' = true) (hM : e.M.oneCell' = true)
    (h : ∀ g cap w' K', Herd W w' (xs.set i (K', tk (.slice (some ⟨g, 0, none⟩) (es.length + 1) cap) (es ++ [e]))) → wpList Try.prog ops Q rest (a.put o.dst (.slice (some ⟨g, 0, none⟩) (es.length + 1) cap)) w') :
    wpList Try.prog ops Q (o :: rest) a (w.alloc (.cells #[e.L, e.M, .int .u8 e.m] 32)) := by
  obtain ⟨i0, hi0, hz0, hz1, hz2⟩ := info_parts infoHeld
  have hp : (tk v es).P w K := H.rep i _ hi
  have hr : w.ownsRow 0 32 3 v es.length (flat es) := hp.1
  refine wpList_append_lies _ hgd s x 26 ho 0 32 i0 _ 3 56 Try.underlying26 hi0 hz0 hz1 hz2 rfl (by omega) v es.length (flat es) hs (hr.alloc _) ⟨w.heap.size, 0, none⟩ 1 c e.cells hx rfl (World.news_of_block (cs := #[e.L, e.M, .int .u8 e.m]) (t := 32) (fr := (0, 0)) (heap_alloc_new w _)) (fun u hu => ?_) (by omega) (by unfold maxLen; omega) (by omega) (Nat.zero_le _) (w.heap.size + 1) (size_alloc' _ _) ?_
  · rcases List.mem_cons.1 hu with rfl | hu
    · exact hL
    · rcases List.mem_cons.1 hu with rfl | hu
      · exact hM
      · rw [List.mem_singleton.1 hu]; rfl
  · intro g cap w' hown hgrow hat hlt
    obtain ⟨K', hH⟩ := H.bookApp i hi hown hgrow hat hlt
    exact h g cap w' K' hH

end Go.Proofs.Ytklffkbcigehfab
