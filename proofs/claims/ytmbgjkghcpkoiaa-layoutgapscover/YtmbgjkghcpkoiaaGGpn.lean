import Derived.Test.YtmbgjkghcpkoiaaGSps
namespace Go.Proofs.Ytmbgjkghcpkoiaa
set_option linter.unusedVariables false

/-! Gaps in numbers. -/
def Fre (E : List (Int × Int)) (d p : Int) : Prop := 0 ≤ p ∧ p < d ∧ ∀ e ∈ E, ¬ (e.1 ≤ p ∧ p < e.2)
structure GapL (E : List (Int × Int)) (d : Int) (G : List (Int × Int)) : Prop where
  srt : G.Pairwise (fun g h => g.2 < h.1)
  els : ∀ g ∈ G, g.1 < g.2 ∧ (∀ p, g.1 ≤ p → p < g.2 → Fre E d p) ∧ ¬ Fre E d (g.1 - 1) ∧ ¬ Fre E d g.2
  all : ∀ p, Fre E d p → ∃ g ∈ G, g.1 ≤ p ∧ p < g.2

theorem GapL.sub {E : List (Int × Int)} {d : Int} {G G' : List (Int × Int)} (h : GapL E d G) (h' : GapL E d G') : ∀ g ∈ G, g ∈ G' := fun g hg => by
  obtain ⟨a1, a2, a3, a4⟩ := h.els g hg
  obtain ⟨k, hk, b1, b2⟩ := h'.all g.1 (a2 g.1 (Int.le_refl _) a1)
  obtain ⟨c1, c2, c3, c4⟩ := h'.els k hk
  have e1 : k.1 = g.1 := by
    by_cases q : k.1 < g.1
    · exact absurd (c2 (g.1 - 1) (by omega) (by omega)) a3
    · omega
  have e2 : k.2 = g.2 := by
    rcases Int.lt_trichotomy k.2 g.2 with q | q | q
    · exact absurd (a2 k.2 (by omega) q) c4
    · exact q
    · exact absurd (c2 g.2 (by omega) q) a4
  have : k = g := Prod.ext e1 e2
  rw [← this]
  exact hk
theorem asc_eq : ∀ {G G' : List (Int × Int)}, G.Pairwise (fun g h => g.2 < h.1) → G'.Pairwise (fun g h => g.2 < h.1) → (∀ g ∈ G, g.1 < g.2) → (∀ g ∈ G', g.1 < g.2) → (∀ g, g ∈ G ↔ g ∈ G') → G = G'
  | [], [], _, _, _, _, _ => rfl
  | [], g :: _, _, _, _, _, h => absurd ((h g).2 (List.mem_cons_self ..)) (by simp)
  | g :: _, [], _, _, _, _, h => absurd ((h g).1 (List.mem_cons_self ..)) (by simp)
  | g :: r, k :: s, h1, h2, n1, n2, h => by
    obtain ⟨p1, p2⟩ := List.pairwise_cons.1 h1
    obtain ⟨q1, q2⟩ := List.pairwise_cons.1 h2
    have mg := n1 g (List.mem_cons_self ..)
    have mk := n2 k (List.mem_cons_self ..)
    have e : g = k := by
      rcases List.mem_cons.1 ((h g).1 (List.mem_cons_self ..)) with e | e
      · exact e
      · rcases List.mem_cons.1 ((h k).2 (List.mem_cons_self ..)) with e' | e'
        · exact e'.symm
        · have := q1 g e
          have := p1 k e'
          omega
    subst e
    have : r = s := asc_eq p2 q2 (fun x hx => n1 x (List.mem_cons_of_mem _ hx)) (fun x hx => n2 x (List.mem_cons_of_mem _ hx)) (fun x => by
      constructor
      · intro hx
        rcases List.mem_cons.1 ((h x).1 (List.mem_cons_of_mem _ hx)) with e | e
        · subst e; have := p1 x hx; omega
        · exact e
      · intro hx
        rcases List.mem_cons.1 ((h x).2 (List.mem_cons_of_mem _ hx)) with e | e
        · subst e; have := q1 x hx; omega
        · exact e)
    rw [this]
theorem GapL.uniq {E : List (Int × Int)} {d : Int} {G G' : List (Int × Int)} (h : GapL E d G) (h' : GapL E d G') : G = G' :=
  asc_eq h.srt h'.srt (fun g hg => (h.els g hg).1) (fun g hg => (h'.els g hg).1) (fun g => ⟨h.sub h' g, h'.sub h g⟩)

/-! The sweep. -/
def gp1 (d : Int) (st : List (Int × Int) × Int) (s : Int × Int) : List (Int × Int) × Int := if s.2 ≤ s.1 then st else (if st.2 < min s.1 d then st.1 ++ [(st.2, min s.1 d)] else st.1, max st.2 s.2)
def gpW (d : Int) (X : List (Int × Int)) : List (Int × Int) × Int := X.foldl (gp1 d) ([], 0)
def gpE (d : Int) (st : List (Int × Int) × Int) : List (Int × Int) := if st.2 < d then st.1 ++ [(st.2, d)] else st.1
def gps (d : Int) (E : List (Int × Int)) : List (Int × Int) := gpE d (gpW d (srtS (E.map Prod.fst) E))

theorem gpW_take {d : Int} {X : List (Int × Int)} {k : Nat} (h : k < X.length) : gpW d (X.take (k + 1)) = gp1 d (gpW d (X.take k)) (X.getD k (0, 0)) := by
  unfold gpW
  rw [List.take_succ_eq_append_getElem h, List.foldl_append]
  simp [List.getD, h]

/-- What holds between two entries of the sweep: Y is behind it. -/
structure Swp (E Y : List (Int × Int)) (d : Int) (st : List (Int × Int) × Int) : Prop where
  at0 : 0 ≤ st.2
  beg : st.2 = 0 ∨ ∃ y ∈ Y, y.1 < y.2 ∧ y.2 = st.2
  low : ∀ y ∈ Y, y.1 < y.2 → y.2 ≤ st.2
  srt : st.1.Pairwise (fun g h => g.2 < h.1)
  els : ∀ g ∈ st.1, g.2 < st.2 ∧ g.1 < g.2 ∧ (∀ p, g.1 ≤ p → p < g.2 → Fre E d p) ∧ ¬ Fre E d (g.1 - 1) ∧ ¬ Fre E d g.2
  all : ∀ p, Fre E d p → p < st.2 → ∃ g ∈ st.1, g.1 ≤ p ∧ p < g.2

theorem Swp.nof {E Y : List (Int × Int)} {d : Int} {st : List (Int × Int) × Int} (h : Swp E Y d st) (hs : ∀ y ∈ Y, y ∈ E) : ¬ Fre E d (st.2 - 1) := fun ⟨f1, f2, f3⟩ => by
  rcases h.beg with q | ⟨y, hy, q1, q2⟩
  · omega
  · exact f3 y (hs y hy) (by omega)

theorem Swp.step {E Y Z : List (Int × Int)} {d : Int} {st : List (Int × Int) × Int} {s : Int × Int} (h : Swp E Y d st) (hm : ∀ e, e ∈ E ↔ e ∈ Y ∨ e = s ∨ e ∈ Z) (hz : ∀ z ∈ Z, s.1 ≤ z.1) : Swp E (Y ++ [s]) d (gp1 d st s) := by
  have hYE : ∀ y ∈ Y, y ∈ E := fun y hy => (hm y).2 (.inl hy)
  have hsE : s ∈ E := (hm s).2 (.inr (.inl rfl))
  unfold gp1
  split
  · rename_i he
    refine ⟨h.at0, ?_, fun y hy => ?_, h.srt, h.els, h.all⟩
    · rcases h.beg with q | ⟨y, hy, q⟩
      · exact .inl q
      · exact .inr ⟨y, List.mem_append_left _ hy, q⟩
    · rcases List.mem_append.1 hy with hy | hy
      · exact h.low y hy
      · rw [List.mem_singleton.1 hy]; intro q; omega
  · rename_i he
    have hbeg : max st.2 s.2 = 0 ∨ ∃ y ∈ Y ++ [s], y.1 < y.2 ∧ y.2 = max st.2 s.2 := by
      by_cases q : s.2 ≤ st.2
      · rw [Int.max_eq_left q]
        rcases h.beg with q | ⟨y, hy, q⟩
        · exact .inl q
        · exact .inr ⟨y, List.mem_append_left _ hy, q⟩
      · exact .inr ⟨s, List.mem_append_right _ (List.mem_singleton.2 rfl), by omega, by rw [Int.max_eq_right (by omega)]⟩
    have hlow : ∀ y ∈ Y ++ [s], y.1 < y.2 → y.2 ≤ max st.2 s.2 := fun y hy hq => by
      rcases List.mem_append.1 hy with hy | hy
      · have := h.low y hy hq; omega
      · rw [List.mem_singleton.1 hy]; omega
    have a0 := h.at0
    by_cases hc : st.2 < min s.1 d
    · simp only [if_pos hc]
      have hfree : ∀ p, st.2 ≤ p → p < min s.1 d → Fre E d p := fun p p1 p2 => ⟨by omega, by omega, fun e he hcv => by
        rcases (hm e).1 he with q | q | q
        · have := h.low e q (by omega); omega
        · subst q; omega
        · have := hz e q; omega⟩
      have hto : ¬ Fre E d (min s.1 d) := fun ⟨f1, f2, f3⟩ => f3 s hsE (by omega)
      refine ⟨by simp only; omega, hbeg, hlow, ?_, fun g hg => ?_, fun p hp hlt => ?_⟩
      · rw [List.pairwise_append]
        refine ⟨h.srt, List.pairwise_singleton _ _, fun a ha b hb => ?_⟩
        rw [List.mem_singleton.1 hb]
        exact (h.els a ha).1
      · simp only at hg ⊢
        rcases List.mem_append.1 hg with hg | hg
        · have q := h.els g hg
          exact ⟨by omega, q.2⟩
        · rw [List.mem_singleton.1 hg]
          exact ⟨by simp only; omega, hc, hfree, h.nof hYE, hto⟩
      · simp only at hlt
        by_cases q : p < st.2
        · obtain ⟨g, hg, q1⟩ := h.all p hp q
          exact ⟨g, List.mem_append_left _ hg, q1⟩
        · refine ⟨_, List.mem_append_right _ (List.mem_singleton.2 rfl), by simp only; omega, ?_⟩
          have f3 := hp.2.2 s hsE
          have f2 := hp.2.1
          simp only
          omega
    · simp only [if_neg hc]
      refine ⟨by simp only; omega, hbeg, hlow, h.srt, fun g hg => ?_, fun p hp hlt => ?_⟩
      · have q := h.els g hg
        exact ⟨by simp only; omega, q.2⟩
      · simp only at hlt
        by_cases q : p < st.2
        · exact h.all p hp q
        · have f3 := hp.2.2 s hsE
          have f2 := hp.2.1
          omega

theorem swp_all {E : List (Int × Int)} {d : Int} : ∀ (Z Y : List (Int × Int)) (st : List (Int × Int) × Int), Swp E Y d st → (∀ e, e ∈ E ↔ e ∈ Y ∨ e ∈ Z) → Z.Pairwise (fun a b => a.1 ≤ b.1) → Swp E (Y ++ Z) d (Z.foldl (gp1 d) st)
  | [], Y, st, h, hm, hp => by simpa using h
  | s :: Z, Y, st, h, hm, hp => by
    obtain ⟨p1, p2⟩ := List.pairwise_cons.1 hp
    have h1 := h.step (s := s) (Z := Z) (fun e => by rw [hm e, List.mem_cons]) p1
    have h2 := swp_all Z (Y ++ [s]) _ h1 (fun e => by rw [hm e, List.mem_cons, List.mem_append, List.mem_singleton, or_assoc]) p2
    simpa using h2
theorem swp_end {E Y : List (Int × Int)} {d : Int} {st : List (Int × Int) × Int} (h : Swp E Y d st) (hm : ∀ e, e ∈ E ↔ e ∈ Y) : GapL E d (gpE d st) := by
  have a0 := h.at0
  unfold gpE
  split
  · rename_i hc
    have hfree : ∀ p, st.2 ≤ p → p < d → Fre E d p := fun p p1 p2 => ⟨by omega, p2, fun e he hcv => by
      have := h.low e ((hm e).1 he) (by omega); omega⟩
    refine ⟨?_, fun g hg => ?_, fun p hp => ?_⟩
    · rw [List.pairwise_append]
      refine ⟨h.srt, List.pairwise_singleton _ _, fun a ha b hb => ?_⟩
      rw [List.mem_singleton.1 hb]
      exact (h.els a ha).1
    · rcases List.mem_append.1 hg with hg | hg
      · exact (h.els g hg).2
      · rw [List.mem_singleton.1 hg]
        exact ⟨hc, hfree, h.nof (fun y hy => (hm y).2 hy), fun ⟨_, f2, _⟩ => by simp only at f2; omega⟩
    · by_cases q : p < st.2
      · obtain ⟨g, hg, q1⟩ := h.all p hp q
        exact ⟨g, List.mem_append_left _ hg, q1⟩
      · exact ⟨_, List.mem_append_right _ (List.mem_singleton.2 rfl), by simp only; omega, hp.2.1⟩
  · rename_i hc
    exact ⟨h.srt, fun g hg => (h.els g hg).2, fun p hp => h.all p hp (by have := hp.2.1; omega)⟩

/-! Spans in order. -/
theorem srt_mem (E : List (Int × Int)) (e : Int × Int) : e ∈ srtS (E.map Prod.fst) E ↔ e ∈ E := by
  unfold srtS
  rw [List.mem_map]
  constructor
  · rintro ⟨p, hp, rfl⟩
    have := H4.order_mem hp
    rw [List.length_map] at this
    have h : p.toNat < E.length := by omega
    simp [List.getD, h]
  · intro he
    obtain ⟨i, hi, rfl⟩ := List.getElem_of_mem he
    refine ⟨(i : Int), ?_, by simp [List.getD, hi]⟩
    rw [(H4.orderOf_perm _).mem_iff]
    unfold H4.places
    rw [List.mem_map]
    exact ⟨i, List.mem_range.2 (by rw [List.length_map]; exact hi), by simp⟩
theorem srt_asc (E : List (Int × Int)) : (srtS (E.map Prod.fst) E).Pairwise (fun a b => a.1 ≤ b.1) := by
  unfold srtS
  rw [List.pairwise_map]
  refine (H4.orderOf_sorted _).imp_of_mem ?_
  intro a b ha hb h
  have h1 := H4.order_mem ha
  have h2 := H4.order_mem hb
  rw [List.length_map] at h1 h2
  have q1 : a.toNat < E.length := by omega
  have q2 : b.toNat < E.length := by omega
  unfold H4.Ah at h
  simp only [List.getD, List.getElem?_map, List.getElem?_eq_getElem q1, List.getElem?_eq_getElem q2, Option.map_some, Option.getD_some] at h ⊢
  omega
theorem gps_ok (E : List (Int × Int)) (d : Int) : GapL E d (gps d E) := by
  have h0 : Swp E [] d ([], 0) := ⟨Int.le_refl _, .inl rfl, fun y hy => (by cases hy), List.Pairwise.nil, fun g hg => (by cases hg), fun p hp hlt => by have := hp.1; simp only at hlt; omega⟩
  have h1 := swp_all (srtS (E.map Prod.fst) E) [] ([], 0) h0 (fun e => by rw [srt_mem]; simp) (srt_asc E)
  exact swp_end h1 (fun e => by rw [List.nil_append, srt_mem])

/-! The document's gaps: from sorted starts. -/
def enN (s : Int) (en : Int) (e : Int × Int) : Int := if s < e.1 ∧ e.1 < e.2 ∧ e.1 < en then e.1 else en
def enS (E : List (Int × Int)) (d s : Int) : Int := E.foldl (enN s) d
theorem enS_fold : ∀ (E : List (Int × Int)) (s x : Int), (E.foldl (enN s) x ≤ x) ∧ (∀ e ∈ E, s < e.1 → e.1 < e.2 → E.foldl (enN s) x ≤ e.1) ∧ (E.foldl (enN s) x = x ∨ ∃ e ∈ E, s < e.1 ∧ e.1 < e.2 ∧ E.foldl (enN s) x = e.1)
  | [], s, x => ⟨Int.le_refl _, fun e he => (by cases he), .inl rfl⟩
  | a :: E, s, x => by
    obtain ⟨h1, h2, h3⟩ := enS_fold E s (enN s x a)
    have hx : enN s x a ≤ x := by unfold enN; split <;> omega
    have ha : s < a.1 → a.1 < a.2 → enN s x a ≤ a.1 := fun q1 q2 => by unfold enN; split <;> omega
    refine ⟨by simp only [List.foldl_cons]; omega, fun e he q1 q2 => ?_, ?_⟩
    · rcases List.mem_cons.1 he with rfl | he
      · have := ha q1 q2; simp only [List.foldl_cons]; omega
      · exact h2 e he q1 q2
    · simp only [List.foldl_cons]
      rcases h3 with q | ⟨e, he, q⟩
      · by_cases c : s < a.1 ∧ a.1 < a.2 ∧ a.1 < x
        · exact .inr ⟨a, List.mem_cons_self .., c.1, c.2.1, by rw [q]; unfold enN; rw [if_pos c]⟩
        · exact .inl (by rw [q]; unfold enN; rw [if_neg c])
      · exact .inr ⟨e, List.mem_cons_of_mem _ he, q⟩
theorem enS_take {E : List (Int × Int)} {s d : Int} {k : Nat} (h : k < E.length) : (E.take (k + 1)).foldl (enN s) d = enN s ((E.take k).foldl (enN s) d) (E.getD k (0, 0)) := by
  rw [List.take_succ_eq_append_getElem h, List.foldl_append]
  simp [List.getD, h]

/-- Where a gap could begin. -/
def stN (e : Int × Int) : List Int := if e.1 < e.2 then [e.2] else []
def stS (E : List (Int × Int)) : List Int := 0 :: E.flatMap stN
theorem stS_mem {E : List (Int × Int)} {s : Int} : s ∈ stS E ↔ s = 0 ∨ ∃ e ∈ E, e.1 < e.2 ∧ e.2 = s := by
  unfold stS
  rw [List.mem_cons, List.mem_flatMap]
  constructor
  · rintro (h | ⟨e, he, h⟩)
    · exact .inl h
    · unfold stN at h
      split at h
      · exact .inr ⟨e, he, by assumption, (List.mem_singleton.1 h).symm⟩
      · cases h
  · rintro (h | ⟨e, he, q, rfl⟩)
    · exact .inl h
    · exact .inr ⟨e, he, by unfold stN; rw [if_pos q]; exact List.mem_singleton.2 rfl⟩
theorem max_of {P : Int → Prop} [DecidablePred P] : ∀ (l : List Int) (p : Int), (∃ s ∈ l, s ≤ p) → ∃ s ∈ l, s ≤ p ∧ ∀ t ∈ l, t ≤ p → t ≤ s
  | [], p, ⟨s, hs, _⟩ => by cases hs
  | a :: l, p, ⟨s, hs, hle⟩ => by
    by_cases hl : ∃ s ∈ l, s ≤ p
    · obtain ⟨m, hm, m1, m2⟩ := max_of (P := P) l p hl
      by_cases ha : a ≤ p ∧ m < a
      · refine ⟨a, List.mem_cons_self .., ha.1, fun t ht htp => ?_⟩
        rcases List.mem_cons.1 ht with rfl | ht
        · exact Int.le_refl _
        · have := m2 t ht htp; omega
      · refine ⟨m, List.mem_cons_of_mem _ hm, m1, fun t ht htp => ?_⟩
        rcases List.mem_cons.1 ht with rfl | ht
        · omega
        · exact m2 t ht htp
    · rcases List.mem_cons.1 hs with rfl | hs
      · refine ⟨s, List.mem_cons_self .., hle, fun t ht htp => ?_⟩
        rcases List.mem_cons.1 ht with rfl | ht
        · exact Int.le_refl _
        · exact absurd ⟨t, ht, htp⟩ hl
      · exact absurd ⟨s, hs, hle⟩ hl

theorem start_gap {E : List (Int × Int)} {d s : Int} (hs : s ∈ stS E) (hf : Fre E d s) : s < enS E d s ∧ (∀ p, s ≤ p → p < enS E d s → Fre E d p) ∧ ¬ Fre E d (s - 1) ∧ ¬ Fre E d (enS E d s) := by
  obtain ⟨h1, h2, h3⟩ := enS_fold E s d
  have f1 := hf.1
  have f2 := hf.2.1
  refine ⟨?_, fun p p1 p2 => ⟨by omega, by unfold enS at p2; omega, fun e he hcv => ?_⟩, fun hq => ?_, fun hq => ?_⟩
  · unfold enS
    rcases h3 with q | ⟨e, he, q1, q2, q⟩ <;> omega
  · have := hf.2.2 e he
    by_cases q : s < e.1
    · have := h2 e he q (by omega)
      unfold enS at p2
      omega
    · omega
  · rcases stS_mem.1 hs with q | ⟨e, he, q1, q2⟩
    · have := hq.1; omega
    · exact hq.2.2 e he (by omega)
  · unfold enS at hq
    rcases h3 with q | ⟨e, he, q1, q2, q⟩
    · have := hq.2.1; omega
    · exact hq.2.2 e he (by omega)

/-- What holds between two starts: T is behind. -/
structure Sts (E : List (Int × Int)) (d : Int) (T : List Int) (G : List (Int × Int)) : Prop where
  inn : ∀ g ∈ G, g.1 ∈ T ∧ Fre E d g.1 ∧ g.2 = enS E d g.1
  all : ∀ s ∈ T, Fre E d s → (s, enS E d s) ∈ G
  asc : G.Pairwise (fun g h => g.1 < h.1)

theorem Sts.end {E : List (Int × Int)} {d : Int} {T : List Int} {G : List (Int × Int)} (h : Sts E d T G) (hT : ∀ s, s ∈ T ↔ s ∈ stS E) : GapL E d G := by
  have key : ∀ g ∈ G, g.1 < g.2 ∧ (∀ p, g.1 ≤ p → p < g.2 → Fre E d p) ∧ ¬ Fre E d (g.1 - 1) ∧ ¬ Fre E d g.2 := fun g hg => by
    obtain ⟨a1, a2, a3⟩ := h.inn g hg
    rw [a3]
    exact start_gap ((hT _).1 a1) a2
  refine ⟨?_, key, fun p hp => ?_⟩
  · refine h.asc.imp_of_mem ?_
    intro a b ha hb hab
    obtain ⟨a1, a2, a3⟩ := h.inn a ha
    obtain ⟨b1, b2, b3⟩ := h.inn b hb
    rcases stS_mem.1 ((hT _).1 b1) with q | ⟨e, he, q1, q2⟩
    · have := a2.1; omega
    · have := a2.2.2 e he
      have hle := (enS_fold E a.1 d).2.1 e he (by omega) q1
      unfold enS at a3
      omega
  · obtain ⟨s, hs, s1, s2⟩ := max_of (P := fun _ => True) (stS E) p ⟨0, stS_mem.2 (.inl rfl), hp.1⟩
    have hs0 : 0 ≤ s := s2 0 (stS_mem.2 (.inl rfl)) hp.1
    have hfs : Fre E d s := ⟨hs0, by have := hp.2.1; omega, fun e he hcv => by
      have := hp.2.2 e he
      have := s2 e.2 (stS_mem.2 (.inr ⟨e, he, by omega, rfl⟩)) (by omega)
      omega⟩
    refine ⟨_, h.all s ((hT s).2 hs) hfs, s1, ?_⟩
    simp only
    obtain ⟨h1, h2, h3⟩ := enS_fold E s d
    unfold enS
    rcases h3 with q | ⟨e, he, q1, q2, q⟩
    · rw [q]; exact hp.2.1
    · rw [q]
      have := hp.2.2 e he
      by_cases c : p < e.1
      · exact c
      · have := s2 e.2 (stS_mem.2 (.inr ⟨e, he, q2, rfl⟩)) (by omega)
        omega

theorem Sts.skip {E : List (Int × Int)} {d s : Int} {T : List Int} {G : List (Int × Int)} (h : Sts E d T G) (hn : ¬ Fre E d s) : Sts E d (T ++ [s]) G :=
  ⟨fun g hg => ⟨List.mem_append_left _ (h.inn g hg).1, (h.inn g hg).2⟩, fun t ht hf => by
    rcases List.mem_append.1 ht with ht | ht
    · exact h.all t ht hf
    · rw [List.mem_singleton.1 ht] at hf; exact absurd hf hn, h.asc⟩
theorem Sts.dup {E : List (Int × Int)} {d s : Int} {T : List Int} {G : List (Int × Int)} {b : Int} (h : Sts E d T (G ++ [(s, b)])) : Sts E d (T ++ [s]) (G ++ [(s, b)]) :=
  ⟨fun g hg => ⟨List.mem_append_left _ (h.inn g hg).1, (h.inn g hg).2⟩, fun t ht hf => by
    rcases List.mem_append.1 ht with ht | ht
    · exact h.all t ht hf
    · rw [List.mem_singleton.1 ht]
      have := (h.inn (s, b) (by simp)).2.2
      simp only at this
      rw [← this]
      simp, h.asc⟩
theorem Sts.add {E : List (Int × Int)} {d s : Int} {T : List Int} {G : List (Int × Int)} (h : Sts E d T G) (hf : Fre E d s) (hl : ∀ t ∈ T, t ≤ s) (hne : ∀ g ∈ G, g.1 ≠ s) : Sts E d (T ++ [s]) (G ++ [(s, enS E d s)]) := by
  refine ⟨fun g hg => ?_, fun t ht hft => ?_, ?_⟩
  · rcases List.mem_append.1 hg with hg | hg
    · exact ⟨List.mem_append_left _ (h.inn g hg).1, (h.inn g hg).2⟩
    · rw [List.mem_singleton.1 hg]; exact ⟨by simp, hf, rfl⟩
  · rcases List.mem_append.1 ht with ht | ht
    · exact List.mem_append_left _ (h.all t ht hft)
    · rw [List.mem_singleton.1 ht]; simp
  · rw [List.pairwise_append]
    refine ⟨h.asc, List.pairwise_singleton _ _, fun a ha b hb => ?_⟩
    rw [List.mem_singleton.1 hb]
    have := hl a.1 (h.inn a ha).1
    have := hne a ha
    simp only
    omega
/-- In an ascending list only the last can be the one. -/
theorem Sts.far {E : List (Int × Int)} {d s : Int} {T : List Int} {G : List (Int × Int)} {g : Int × Int} (h : Sts E d T (G ++ [g])) (hl : ∀ t ∈ T, t ≤ s) (hne : g.1 ≠ s) : ∀ k ∈ G ++ [g], k.1 ≠ s := fun k hk e => by
  have h2 := (List.pairwise_append.1 h.asc).2.2
  rcases List.mem_append.1 hk with hk | hk
  · have := h2 k hk g (by simp)
    have := hl g.1 (h.inn g (by simp)).1
    omega
  · rw [List.mem_singleton.1 hk] at e; exact hne e

/-- The starts in order. -/
def ords (L : List Int) : List Int := (H4.orderOf L).map fun p => L.getD p.toNat 0
theorem ords_len (L : List Int) : (ords L).length = L.length := by unfold ords; rw [List.length_map, H4.orderOf_len]
theorem ords_mem (L : List Int) (s : Int) : s ∈ ords L ↔ s ∈ L := by
  unfold ords
  rw [List.mem_map]
  constructor
  · rintro ⟨p, hp, rfl⟩
    have := H4.order_mem hp
    have h : p.toNat < L.length := by omega
    simp [List.getD, h]
  · intro he
    obtain ⟨i, hi, rfl⟩ := List.getElem_of_mem he
    refine ⟨(i : Int), ?_, by simp [List.getD, hi]⟩
    rw [(H4.orderOf_perm _).mem_iff]
    unfold H4.places
    rw [List.mem_map]
    exact ⟨i, List.mem_range.2 hi, by simp⟩
theorem ords_asc (L : List Int) : (ords L).Pairwise (fun a b => a ≤ b) := by
  unfold ords
  rw [List.pairwise_map]
  refine (H4.orderOf_sorted _).imp ?_
  intro a b h
  unfold H4.Ah at h
  omega
theorem ords_take {L : List Int} {k : Nat} (h : k < L.length) : (ords L).take (k + 1) = (ords L).take k ++ [L.getD ((H4.orderOf L).getD k 0).toNat 0] ∧ ∀ t ∈ (ords L).take k, t ≤ L.getD ((H4.orderOf L).getD k 0).toNat 0 := by
  have hk : k < (H4.orderOf L).length := by rw [H4.orderOf_len]; exact h
  have h1 : (ords L).take (k + 1) = (ords L).take k ++ [L.getD ((H4.orderOf L).getD k 0).toNat 0] := by
    rw [List.take_succ_eq_append_getElem (by rw [ords_len]; exact h)]
    simp [ords, hk]
  refine ⟨h1, fun t ht => ?_⟩
  have h2 : ((ords L).take (k + 1)).Pairwise (fun a b => a ≤ b) := (ords_asc L).sublist (List.take_sublist _ _)
  rw [h1, List.pairwise_append] at h2
  exact h2.2.2 t ht _ (by simp)
end Go.Proofs.Ytmbgjkghcpkoiaa

