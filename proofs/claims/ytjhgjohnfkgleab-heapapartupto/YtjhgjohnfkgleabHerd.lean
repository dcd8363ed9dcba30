import Derived.Test.YtjhgjohnfkgleabRf3
namespace Go.Proofs.Ytjhgjohnfkgleab
open Go.RowKit Go.Maps
set_option maxRecDepth 20000

/-- Something in memory, with the blocks that are its own. -/
structure Thing where
  P : World → (Nat → Nat) → Prop
  far : ∀ {w w' : World} {K : Nat → Nat}, P w K → w.heap.size ≤ w'.heap.size → (∀ k, K k ≠ 0 → w'.heap[k]? = w.heap[k]?) → P w' K
  sup : ∀ {w : World} {K : Nat → Nat}, P w K → ∀ k, K k ≠ 0 → k < w.heap.size

/-- A block. -/
def tb (g : Nat) (o : Obj) : Thing :=
  ⟨fun w K => w.heap[g]? = some o ∧ K g ≠ 0 ∧ ∀ k, K k ≠ 0 → k < w.heap.size,
   fun h a b => ⟨(b g h.2.1).trans h.1, h.2.1, fun k hk => Nat.lt_of_lt_of_le (h.2.2 k hk) a⟩, fun h => h.2.2⟩

structure Herd (W w : World) (xs : List ((Nat → Nat) × Thing)) : Prop where
  bel : Below W.heap.size W w
  rep : ∀ (i : Nat) (d : (Nat → Nat) × Thing), xs[i]? = some d → d.2.P w d.1
  up : ∀ (i : Nat) (d : (Nat → Nat) × Thing), xs[i]? = some d → ∀ k, d.1 k ≠ 0 → W.heap.size ≤ k
  sep : ∀ (i j : Nat) (d e : (Nat → Nat) × Thing), xs[i]? = some d → xs[j]? = some e → i ≠ j → ∀ k, d.1 k ≠ 0 → e.1 k = 0

theorem Thing.zero {x : Thing} {w : World} {K : Nat → Nat} (h : x.P w K) {k : Nat} (hk : w.heap.size ≤ k) : K k = 0 := by
  by_cases e : K k = 0
  · exact e
  · have := x.sup h k e; omega

theorem get_set {α : Type} {l : List α} {x y : α} {i j : Nat} (h : (l.set j x)[i]? = some y) : (i ≠ j ∧ l[i]? = some y) ∨ (i = j ∧ y = x) := by
  by_cases e : j = i
  · subst e
    rw [List.getElem?_set_self'] at h
    obtain ⟨u, hu, e⟩ := Option.map_eq_some_iff.1 h
    exact .inr ⟨rfl, e.symm⟩
  · rw [List.getElem?_set_ne e] at h
    exact .inl ⟨fun e2 => e e2.symm, h⟩

theorem Herd.nil (W : World) : Herd W W [] := ⟨Below.refl _ _, (fun i d hd => by simp at hd), (fun i d hd => by simp at hd), (fun i j d e hd => by simp at hd)⟩

theorem Herd.below {W w w' : World} {xs : List ((Nat → Nat) × Thing)} (h : Herd W w xs) (hb : Below w.heap.size w w') : Herd W w' xs :=
  ⟨h.bel.trans (hb.mono h.bel.size), fun i d hd => d.2.far (h.rep i d hd) hb.size fun k hk => hb.block k (d.2.sup (h.rep i d hd) k hk), h.up, h.sep⟩

theorem Herd.drewN {W w : World} {xs : List ((Nat → Nat) × Thing)} (h : Herd W w xs) (n : Nat) : Herd W (w.drewN n) xs := h.below (below_drewN (Below.refl _ _) n)

theorem Herd.op {W w w' : World} {xs : List ((Nat → Nat) × Thing)} (h : Herd W w xs) (n : Nat) {K K' : Nat → Nat} {x x' : Thing} (hn : xs[n]? = some (K, x)) (hr : x'.P w' K') (hF : Fr K K' w w') : Herd W w' (xs.set n (K', x')) := by
  have hs := h.bel.size
  have hup := h.up n _ hn
  refine ⟨h.bel.trans (hF.below hup hs), fun i d hd => ?_, fun i d hd k hk => ?_, fun i j d e hd he hne k hk => ?_⟩
  · rcases get_set hd with ⟨hne, hd⟩ | ⟨_, rfl⟩
    · exact d.2.far (h.rep i d hd) hF.size fun k hk => hF.block k (d.2.sup (h.rep i d hd) k hk) (h.sep i n d _ hd hn hne k hk)
    · exact hr
  · rcases get_set hd with ⟨hne, hd⟩ | ⟨_, rfl⟩
    · exact h.up i d hd k hk
    · exact hF.up hup hs k hk
  · rcases get_set hd with ⟨hn1, hd⟩ | ⟨e1, rfl⟩
    · rcases get_set he with ⟨hn2, he⟩ | ⟨e2, rfl⟩
      · exact h.sep i j d e hd he hne k hk
      · exact (hF.role k (d.2.sup (h.rep i d hd) k hk)).trans (h.sep i n d _ hd hn hn1 k hk)
    · rcases get_set he with ⟨hn2, he⟩ | ⟨e2, rfl⟩
      · by_cases hl : k < w.heap.size
        · exact h.sep n j _ e hn he (fun e3 => hn2 e3.symm) k (fun e0 => hk ((hF.role k hl).trans e0))
        · exact Thing.zero (h.rep j e he) (by omega)
      · omega

theorem get_snoc {α : Type} {l : List α} {x y : α} {i : Nat} (h : (l ++ [x])[i]? = some y) : (l[i]? = some y) ∨ (i = l.length ∧ y = x) := by
  by_cases hi : i < l.length
  · rw [List.getElem?_append_left hi] at h
    exact .inl h
  · rw [List.getElem?_append_right (by omega)] at h
    have := (List.getElem?_eq_some_iff.1 h).1
    simp at this
    have e : i = l.length := by omega
    subst e
    simp at h
    exact .inr ⟨rfl, h.symm⟩

theorem Herd.push {W w w' : World} {xs : List ((Nat → Nat) × Thing)} (h : Herd W w xs) (hb : Below w.heap.size w w') {K : Nat → Nat} {x : Thing} (hr : x.P w' K) (hu : ∀ k, K k ≠ 0 → w.heap.size ≤ k) : Herd W w' (xs ++ [(K, x)]) := by
  have h' := h.below hb
  have hs := h.bel.size
  refine ⟨h'.bel, fun i d hd => ?_, fun i d hd k hk => ?_, fun i j d e hd he hne k hk => ?_⟩
  · rcases get_snoc hd with hd | ⟨_, rfl⟩
    · exact h'.rep i d hd
    · exact hr
  · rcases get_snoc hd with hd | ⟨_, rfl⟩
    · exact h.up i d hd k hk
    · have := hu k hk; omega
  · rcases get_snoc hd with hd | ⟨e1, rfl⟩
    · rcases get_snoc he with he | ⟨e2, rfl⟩
      · exact h.sep i j d e hd he hne k hk
      · by_cases e0 : K k = 0
        · exact e0
        · exact absurd (Thing.zero (h.rep i d hd) (hu k e0)) hk
    · rcases get_snoc he with he | ⟨e2, rfl⟩
      · exact Thing.zero (h.rep j e he) (hu k hk)
      · omega

/-- What owns nothing may stand in front. -/
theorem Herd.front {W w : World} {xs : List ((Nat → Nat) × Thing)} (H : Herd W w xs) {x : Thing} (hx : x.P w fun _ => 0) : Herd W w ((fun _ => 0, x) :: xs) := by
  refine ⟨H.bel, fun i d hd => ?_, fun i d hd => ?_, fun i j d e hd he hne k hk => ?_⟩
  · cases i with
    | zero => simp at hd; subst hd; exact hx
    | succ i => exact H.rep i d (by simpa using hd)
  · cases i with
    | zero => simp at hd; subst hd; intro k hk; exact absurd rfl hk
    | succ i => exact H.up i d (by simpa using hd)
  · cases i with
    | zero => simp at hd; subst hd; exact absurd rfl hk
    | succ i =>
      cases j with
      | zero => simp at he; subst he; rfl
      | succ j => exact H.sep i j d e (by simpa using hd) (by simpa using he) (by omega) k hk

/-- A herd without its last ones. -/
theorem Herd.cut {W w : World} {xs ys : List ((Nat → Nat) × Thing)} (h : Herd W w (xs ++ ys)) : Herd W w xs := by
  have e : ∀ (i : Nat) (d : (Nat → Nat) × Thing), xs[i]? = some d → (xs ++ ys)[i]? = some d := fun i d hd => by
    rw [List.getElem?_append_left (List.getElem?_eq_some_iff.1 hd).1]; exact hd
  exact ⟨h.bel, fun i d hd => h.rep i d (e i d hd), fun i d hd => h.up i d (e i d hd), fun i j d d' hd hd' => h.sep i j d d' (e i d hd) (e j d' hd')⟩

/-- A herd without its first. -/
theorem Herd.rest {W w : World} {xs : List ((Nat → Nat) × Thing)} {y : (Nat → Nat) × Thing} (h : Herd W w (y :: xs)) : Herd W w xs :=
  ⟨h.bel, fun i d hd => h.rep (i + 1) d (by simpa using hd), fun i d hd => h.up (i + 1) d (by simpa using hd), fun i j d d' hd hd' hne => h.sep (i + 1) (j + 1) d d' (by simpa using hd) (by simpa using hd') (by omega)⟩

theorem set_at {α : Type} (xs : List α) (y z : α) (ys : List α) : (xs ++ y :: ys).set xs.length z = xs ++ z :: ys := by
  induction xs with
  | nil => rfl
  | cons a r ih => simp only [List.cons_append, List.length_cons, List.set_cons_succ, ih]

theorem get_at {α : Type} (xs : List α) (y : α) (ys : List α) : (xs ++ y :: ys)[xs.length]? = some y := by simp

/-- A heap of the program. -/
def tq (g : Nat) (R : List (It Int)) (n : Nat) : Thing := ⟨fun w K => Hq w K g R n, fun h a b => h.far a b, fun h => h.sup⟩

/-- A heap of the document. -/
def tr (g : Nat) (R : List (It Int)) : Thing := ⟨fun w K => Rq w K g R, fun h a b => h.far a b, fun h => h.sup⟩

/-- A list of ints. -/
def tl (v : Value) (l : List Int) : Thing :=
  ⟨fun w K => OI w 0 v l ∧ (∀ k, v.ownBlock = some k → K k ≠ 0) ∧ ∀ k, K k ≠ 0 → k < w.heap.size,
   fun h a b => ⟨h.1.move fun k hk => b k (h.2.1 k hk), h.2.1, fun k hk => Nat.lt_of_lt_of_le (h.2.2 k hk) a⟩, fun h => h.2.2⟩

theorem one_K (k g : Nat) : (if k = g then 1 else 0) ≠ 0 ↔ k = g := by by_cases h : k = g <;> simp [h]

theorem hnew {W w : World} {xs : List ((Nat → Nat) × Thing)} (H : Herd W w xs) : Calls Try.prog 9 #[] w fun e w' => ∃ g K, e = .returned (.pointer (some ⟨g, 0, none⟩)) ∧ Herd W w' (xs ++ [(K, tq g [] 0)]) := by
  refine (new_any w).mono ?_
  rintro e w1 ⟨rfl, rfl⟩
  refine ⟨_, fun k => if k = w.heap.size then 1 else 0, rfl, H.push ((Below.refl _ _).alloc (Nat.le_refl _) _) ⟨.inl ⟨rfl, rfl, heap_alloc_new w _⟩, ?_, fun k hk => ?_⟩ fun k hk => ?_⟩
  · simp
  · have := (one_K k _).1 hk
    rw [size_alloc']; omega
  · have := (one_K k _).1 hk
    omega

theorem hrnew {W w : World} {xs : List ((Nat → Nat) × Thing)} (H : Herd W w xs) : Calls Try.prog 10 #[] w fun e w' => ∃ g K, e = .returned (.pointer (some ⟨g, 0, none⟩)) ∧ Herd W w' (xs ++ [(K, tr g [])]) := by
  refine (rnew_any w).mono ?_
  rintro e w1 ⟨rfl, rfl⟩
  refine ⟨_, fun k => if k = w.heap.size then 1 else 0, rfl, H.push ((Below.refl _ _).alloc (Nat.le_refl _) _) ⟨⟨_, heap_alloc_new w _, World.ownsRow_nil _ _ _ _, by simp [Value.ownBlock], fun k hk => by simp [Value.ownBlock] at hk⟩, ?_, fun k hk => ?_⟩ fun k hk => ?_⟩
  · simp
  · have := (one_K k _).1 hk
    rw [size_alloc']; omega
  · have := (one_K k _).1 hk
    omega

theorem hlen {W w : World} {xs : List ((Nat → Nat) × Thing)} (H : Herd W w xs) (i : Nat) {K : Nat → Nat} {g : Nat} {R : List (It Int)} {n : Nat} (hi : xs[i]? = some (K, tq g R n)) :
    Calls Try.prog 15 #[.pointer (some ⟨g, 0, none⟩)] w fun e w' => e = .returned (.int .i64 R.length) ∧ w' = w := len_any (H.rep i _ hi)

theorem hrlen {W w : World} {xs : List ((Nat → Nat) × Thing)} (H : Herd W w xs) (i : Nat) {K : Nat → Nat} {g : Nat} {R : List (It Int)} (hi : xs[i]? = some (K, tr g R)) :
    Calls Try.prog 16 #[.pointer (some ⟨g, 0, none⟩)] w fun e w' => e = .returned (.int .i64 R.length) ∧ w' = w := rlen_any (H.rep i _ hi)

theorem hpush {W w : World} {xs : List ((Nat → Nat) × Thing)} (H : Herd W w xs) (i : Nat) {K : Nat → Nat} {g : Nat} {R : List (It Int)} {n : Nat} (hi : xs[i]? = some (K, tq g R n)) (key val : Int) (hR : R.length ≤ 5864062014804) (hn : n ≤ 10000000000000) :
    Calls Try.prog 11 #[.pointer (some ⟨g, 0, none⟩), .int .i64 key, .int .i64 val] w fun e w' => e = .returned (.tuple #[]) ∧ ∃ K', Herd W w' (xs.set i (K', tq g (R ++ [It.mk key (n : Int) val]) (n + 1))) := by
  refine (push_any (H.rep i _ hi) key val hR hn).mono ?_
  rintro e w1 ⟨rfl, K', h1, h2⟩
  exact ⟨rfl, K', H.op i hi (x' := tq g (R ++ [It.mk key (n : Int) val]) (n + 1)) h1 h2⟩

theorem hrpush {W w : World} {xs : List ((Nat → Nat) × Thing)} (H : Herd W w xs) (i : Nat) {K : Nat → Nat} {g : Nat} {R : List (It Int)} (hi : xs[i]? = some (K, tr g R)) (x : It Int) (hR : R.length ≤ 5864062014804) :
    Calls Try.prog 12 #[.pointer (some ⟨g, 0, none⟩), .int .i64 x.key, .int .i64 x.val] w fun e w' => e = .returned (.tuple #[]) ∧ ∃ K', Herd W w' (xs.set i (K', tr g (R ++ [x]))) := by
  refine (rpush_any (H.rep i _ hi) x hR).mono ?_
  rintro e w1 ⟨rfl, K', h1, h2⟩
  exact ⟨rfl, K', H.op i hi (x' := tr g (R ++ [x])) h1 h2⟩

theorem hpeek {W w : World} {xs : List ((Nat → Nat) × Thing)} (H : Herd W w xs) (i : Nat) {K : Nat → Nat} {g : Nat} {R : List (It Int)} {n : Nat} (hi : xs[i]? = some (K, tq g R n)) :
    Calls Try.prog 32 #[.pointer (some ⟨g, 0, none⟩)] w fun e w' => e = .returned (.tuple #[.int .i64 (pkK R), .int .i64 (pkV R), .bool (pkB R)]) ∧ Herd W w' xs := by
  refine (peek_any (H.rep i _ hi)).mono ?_
  rintro e w1 ⟨rfl, q, rfl⟩
  exact ⟨rfl, H.drewN q⟩

theorem hrpeek {W w : World} {xs : List ((Nat → Nat) × Thing)} (H : Herd W w xs) (i : Nat) {K : Nat → Nat} {g : Nat} {R : List (It Int)} (hi : xs[i]? = some (K, tr g R)) (hR : R.length ≤ 6000000000000) :
    Calls Try.prog 33 #[.pointer (some ⟨g, 0, none⟩)] w fun e w' => e = .returned (.tuple #[.int .i64 (pkK R), .int .i64 (pkV R), .bool (pkB R)]) ∧ Herd W w' xs := by
  refine (rpeek_any (H.rep i _ hi) hR).mono ?_
  rintro e w1 ⟨rfl, q, rfl⟩
  exact ⟨rfl, H.drewN q⟩

theorem hpop {W w : World} {xs : List ((Nat → Nat) × Thing)} (H : Herd W w xs) (i : Nat) {K : Nat → Nat} {g : Nat} {R : List (It Int)} {n : Nat} (hi : xs[i]? = some (K, tq g R n)) (hR : R.length ≤ 6000000000000) :
    Calls Try.prog 30 #[.pointer (some ⟨g, 0, none⟩)] w fun e w' => e = .returned (.tuple #[.int .i64 (pkK R), .int .i64 (pkV R), .bool (pkB R)]) ∧ Herd W w' (xs.set i (K, tq g (rest R) n)) := by
  refine (pop_any (H.rep i _ hi) hR).mono ?_
  rintro e w1 ⟨rfl, h1, h2⟩
  exact ⟨rfl, H.op i hi (x' := tq g (rest R) n) h1 h2⟩

theorem hrpop {W w : World} {xs : List ((Nat → Nat) × Thing)} (H : Herd W w xs) (i : Nat) {K : Nat → Nat} {g : Nat} {R : List (It Int)} (hi : xs[i]? = some (K, tr g R)) (hR : R.length ≤ 5864062014804) :
    Calls Try.prog 14 #[.pointer (some ⟨g, 0, none⟩)] w fun e w' => e = .returned (.tuple #[.int .i64 (pkK R), .int .i64 (pkV R), .bool (pkB R)]) ∧ ∃ K', Herd W w' (xs.set i (K', tr g (rest R))) := by
  refine (rpop_any (H.rep i _ hi) hR).mono ?_
  rintro e w1 ⟨rfl, K', h1, h2⟩
  exact ⟨rfl, K', H.op i hi (x' := tr g (rest R)) h1 h2⟩

end Go.Proofs.Ytjhgjohnfkgleab
