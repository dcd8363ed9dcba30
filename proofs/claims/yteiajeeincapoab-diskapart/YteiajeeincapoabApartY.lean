import Derived.Test.YteiajeeincapoabApartO
import Derived.Test.YteiajeeincapoabRead
namespace Go.Proofs.Yteiajeeincapoab
open Go.RowKit Go.Maps

structure Yard (W w : World) (bs : List (Value × List Int)) (ds : List ((Nat → Nat) × Nat × St)) : Prop where
  bel : Below W.heap.size W w
  ob : ∀ (i : Nat) (p : Value × List Int), bs[i]? = some p → OB w W.heap.size p.1 p.2
  bsep : ∀ (i j : Nat) (p q : Value × List Int), bs[i]? = some p → bs[j]? = some q → i ≠ j → ∀ k, p.1.ownBlock = some k → q.1.ownBlock ≠ some k
  rep : ∀ (i : Nat) (d : (Nat → Nat) × Nat × St), ds[i]? = some d → Rep w d.1 d.2.1 d.2.2
  up : ∀ (i : Nat) (d : (Nat → Nat) × Nat × St), ds[i]? = some d → ∀ k, d.1 k ≠ 0 → W.heap.size ≤ k
  dsep : ∀ (i j : Nat) (d e : (Nat → Nat) × Nat × St), ds[i]? = some d → ds[j]? = some e → i ≠ j → ∀ k, d.1 k ≠ 0 → e.1 k = 0
  cross : ∀ (i j : Nat) (p : Value × List Int) (d : (Nat → Nat) × Nat × St), bs[i]? = some p → ds[j]? = some d → Role d.1 p.1 0

theorem Rep.sup' {w : World} {K : Nat → Nat} {g : Nat} {st : St} (h : Rep w K g st) {k : Nat} (hk : w.heap.size ≤ k) : K k = 0 := by
  obtain ⟨_, _, _, _, _, h⟩ := h
  by_cases e : K k = 0
  · exact e
  · have := h.sup k e; omega

theorem snoc_get {α : Type} {l : List α} {x y : α} {i : Nat} (h : (l ++ [x])[i]? = some y) : (l[i]? = some y) ∨ (i = l.length ∧ y = x) := by
  by_cases hi : i < l.length
  · rw [List.getElem?_append_left hi] at h
    exact .inl h
  · rw [List.getElem?_append_right (by omega)] at h
    have := (List.getElem?_eq_some_iff.1 h).1
    simp at this
    have e : i = l.length := by omega
    subst e
    simp at h
    exact .inr ⟨rfl, h.symm⟩

theorem set_get {α : Type} {l : List α} {x y : α} {i j : Nat} (h : (l.set j x)[i]? = some y) : (i ≠ j ∧ l[i]? = some y) ∨ (i = j ∧ y = x) := by
  by_cases e : j = i
  · subst e
    rw [List.getElem?_set_self'] at h
    obtain ⟨u, hu, e⟩ := Option.map_eq_some_iff.1 h
    exact .inr ⟨rfl, e.symm⟩
  · rw [List.getElem?_set_ne e] at h
    exact .inl ⟨fun e2 => e e2.symm, h⟩

theorem Yard.below {W w w' : World} {bs : List (Value × List Int)} {ds : List ((Nat → Nat) × Nat × St)} (h : Yard W w bs ds) (hb : Below w.heap.size w w') : Yard W w' bs ds :=
  ⟨h.bel.trans (hb.mono h.bel.size), fun i p hp => (h.ob i p hp).below hb (Nat.le_refl _), h.bsep, fun i d hd => (h.rep i d hd).below hb, h.up, h.dsep, h.cross⟩

theorem Yard.push {W w w' : World} {bs : List (Value × List Int)} {ds : List ((Nat → Nat) × Nat × St)} (h : Yard W w bs ds) (hb : Below w.heap.size w w') {v : Value} {l : List Int} (ho : OB w' w.heap.size v l) : Yard W w' (bs ++ [(v, l)]) ds := by
  have h' := h.below hb
  have hs := h.bel.size
  refine ⟨h'.bel, fun i p hp => ?_, fun i j p q hp hq hne k hk hk2 => ?_, h'.rep, h.up, h.dsep, fun i j p d hp hd k hk => ?_⟩
  · rcases snoc_get hp with hp | ⟨_, rfl⟩
    · exact h'.ob i p hp
    · exact ho.base hs
  · rcases snoc_get hp with hp | ⟨e1, rfl⟩
    · rcases snoc_get hq with hq | ⟨e2, rfl⟩
      · exact h.bsep i j p q hp hq hne k hk hk2
      · have := ((h.ob i p hp).lt k hk).2
        have := (ho.lt k hk2).1
        omega
    · rcases snoc_get hq with hq | ⟨e2, rfl⟩
      · have := ((h.ob j q hq).lt k hk2).2
        have := (ho.lt k hk).1
        omega
      · omega
  · rcases snoc_get hp with hp | ⟨_, rfl⟩
    · exact h.cross i j p d hp hd k hk
    · exact (h.rep j d hd).sup' (ho.lt k hk).1

theorem Yard.pushd {W w w' : World} {bs : List (Value × List Int)} {ds : List ((Nat → Nat) × Nat × St)} (h : Yard W w bs ds) (hb : Below w.heap.size w w') {K : Nat → Nat} {g : Nat} {st : St} (hr : Rep w' K g st) (hu : ∀ k, K k ≠ 0 → w.heap.size ≤ k) : Yard W w' bs (ds ++ [(K, g, st)]) := by
  have h' := h.below hb
  have hs := h.bel.size
  refine ⟨h'.bel, h'.ob, h.bsep, fun i d hd => ?_, fun i d hd k hk => ?_, fun i j d e hd he hne k hk => ?_, fun i j p d hp hd k hk => ?_⟩
  · rcases snoc_get hd with hd | ⟨_, rfl⟩
    · exact h'.rep i d hd
    · exact hr
  · rcases snoc_get hd with hd | ⟨_, rfl⟩
    · exact h.up i d hd k hk
    · have := hu k hk; omega
  · rcases snoc_get hd with hd | ⟨e1, rfl⟩
    · rcases snoc_get he with he | ⟨e2, rfl⟩
      · exact h.dsep i j d e hd he hne k hk
      · by_cases e0 : K k = 0
        · exact e0
        · exact absurd ((h.rep i d hd).sup' (hu k e0)) hk
    · rcases snoc_get he with he | ⟨e2, rfl⟩
      · exact (h.rep j e he).sup' (hu k hk)
      · omega
  · rcases snoc_get hd with hd | ⟨_, rfl⟩
    · exact h.cross i j p d hp hd k hk
    · by_cases e0 : K k = 0
      · exact e0
      · have := hu k e0
        have := ((h.ob i p hp).lt k hk).2
        omega

theorem Yard.op {W w w' : World} {bs : List (Value × List Int)} {ds : List ((Nat → Nat) × Nat × St)} (h : Yard W w bs ds) (n : Nat) {K K' : Nat → Nat} {g : Nat} {st st' : St} (hn : ds[n]? = some (K, g, st)) (hr : Rep w' K' g st') (hF : Fr K K' w w') : Yard W w' bs (ds.set n (K', g, st')) := by
  have hs := h.bel.size
  have hup := h.up n _ hn
  refine ⟨h.bel.trans (hF.below hup hs), fun i p hp => ((h.ob i p hp).fr (h.cross i n p _ hp hn) hF).1, h.bsep, fun i d hd => ?_, fun i d hd k hk => ?_, fun i j d e hd he hne k hk => ?_, fun i j p d hp hd k hk => ?_⟩
  · rcases set_get hd with ⟨hne, hd⟩ | ⟨_, rfl⟩
    · exact (h.rep i d hd).other (h.dsep i n d _ hd hn hne) hF
    · exact hr
  · rcases set_get hd with ⟨hne, hd⟩ | ⟨_, rfl⟩
    · exact h.up i d hd k hk
    · exact hF.up hup hs k hk
  · rcases set_get hd with ⟨hn1, hd⟩ | ⟨e1, rfl⟩
    · rcases set_get he with ⟨hn2, he⟩ | ⟨e2, rfl⟩
      · exact h.dsep i j d e hd he hne k hk
      · have hk0 := h.dsep i n d _ hd hn hn1 k hk
        have hkl : k < w.heap.size := by
          by_cases hl : k < w.heap.size
          · exact hl
          · exact absurd ((h.rep i d hd).sup' (by omega)) hk
        exact (hF.role k hkl).trans hk0
    · rcases set_get he with ⟨hn2, he⟩ | ⟨e2, rfl⟩
      · by_cases hl : k < w.heap.size
        · exact h.dsep n j _ e hn he (fun e3 => hn2 e3.symm) k (fun e0 => hk ((hF.role k hl).trans e0))
        · exact (h.rep j e he).sup' (by omega)
      · omega
  · rcases set_get hd with ⟨hne, hd⟩ | ⟨_, rfl⟩
    · exact h.cross i j p d hp hd k hk
    · exact (hF.role k ((h.ob i p hp).lt k hk).2).trans (h.cross i n p _ hp hn k hk)

theorem Yard.crash {W w w' : World} {bs : List (Value × List Int)} {ds : List ((Nat → Nat) × Nat × St)} (h : Yard W w bs ds) (n : Nat) {K K2 : Nat → Nat} {g g2 : Nat} {st st' st2 : St} (hn : ds[n]? = some (K, g, st)) (hr : Rep w' K g st') (hr2 : Rep w' K2 g2 st2) (hu : ∀ k, K2 k ≠ 0 → w.heap.size ≤ k) (hF : Fr K K w w') :
    Yard W w' bs (ds.set n (K, g, st') ++ [(K2, g2, st2)]) := by
  have h' := h.op n hn hr hF
  have hs := h.bel.size
  have hold : ∀ (i : Nat) (d : (Nat → Nat) × Nat × St), (ds.set n (K, g, st'))[i]? = some d → ∀ k, w.heap.size ≤ k → d.1 k = 0 := fun i d hd k hk => by
    rcases set_get hd with ⟨_, hd⟩ | ⟨_, rfl⟩
    · exact (h.rep i d hd).sup' hk
    · exact (h.rep n _ hn).sup' hk
  refine ⟨h'.bel, h'.ob, h.bsep, fun i d hd => ?_, fun i d hd k hk => ?_, fun i j d e hd he hne k hk => ?_, fun i j p d hp hd k hk => ?_⟩
  · rcases snoc_get hd with hd | ⟨_, rfl⟩
    · exact h'.rep i d hd
    · exact hr2
  · rcases snoc_get hd with hd | ⟨_, rfl⟩
    · exact h'.up i d hd k hk
    · have := hu k hk; omega
  · rcases snoc_get hd with hd | ⟨e1, rfl⟩
    · rcases snoc_get he with he | ⟨e2, rfl⟩
      · exact h'.dsep i j d e hd he hne k hk
      · by_cases e0 : K2 k = 0
        · exact e0
        · exact absurd (hold i d hd k (hu k e0)) hk
    · rcases snoc_get he with he | ⟨e2, rfl⟩
      · exact hold j e he k (hu k hk)
      · omega
  · rcases snoc_get hd with hd | ⟨_, rfl⟩
    · exact h'.cross i j p d hp hd k hk
    · by_cases e0 : K2 k = 0
      · exact e0
      · have := hu k e0
        have := ((h.ob i p hp).lt k hk).2
        omega

theorem Yard.mark {W w w' : World} {bs : List (Value × List Int)} {ds : List ((Nat → Nat) × Nat × St)} (h : Yard W w bs ds) (n : Nat) {v : Value} {l l' : List Int} (hn : bs[n]? = some (v, l)) (ho : OB w' W.heap.size v l') (hg : w.grownBy w' v.ownBlock) : Yard W w' (bs.set n (v, l')) ds := by
  have hs := h.bel.size
  have hob := h.ob n _ hn
  refine ⟨⟨hg.os.trans h.bel.os, hg.tape.trans h.bel.tape, hg.output.trans h.bel.output, Nat.le_trans hs hg.size, fun k hk => ?_⟩, fun i p hp => ?_, fun i j p q hp hq hne k hk => ?_, fun i d hd => ?_, h.up, h.dsep, fun i j p d hp hd k hk => ?_⟩
  · rw [hg.block k (by omega) (fun e => by have := (hob.lt k e.symm).1; omega)]
    exact h.bel.block k hk
  · rcases set_get hp with ⟨hne, hp⟩ | ⟨_, rfl⟩
    · exact (h.ob i p hp).move fun k hk => hg.block k ((h.ob i p hp).lt k hk).2 (fun e => h.bsep i n p _ hp hn hne k hk e.symm)
    · exact ho
  · rcases set_get hp with ⟨hn1, hp⟩ | ⟨e1, rfl⟩
    · rcases set_get hq with ⟨hn2, hq⟩ | ⟨e2, rfl⟩
      · exact h.bsep i j p q hp hq hne k hk
      · exact h.bsep i n p _ hp hn hn1 k hk
    · rcases set_get hq with ⟨hn2, hq⟩ | ⟨e2, rfl⟩
      · exact h.bsep n j _ q hn hq (fun e3 => hn2 e3.symm) k hk
      · omega
  · exact (h.rep i d hd).far hg.size fun k hk => hg.block k (by
      by_cases hl : k < w.heap.size
      · exact hl
      · exact absurd ((h.rep i d hd).sup' (by omega)) hk) (fun e => hk (h.cross n i _ d hn hd k e.symm))
  · rcases set_get hp with ⟨_, hp⟩ | ⟨_, rfl⟩
    · exact h.cross i j p d hp hd k hk
    · exact h.cross n j _ d hn hd k hk

theorem Yard.keep {W w w' : World} {bs ls : List (Value × List Int)} {ds : List ((Nat → Nat) × Nat × St)} (h : Yard W w bs ds) (hk : Keep ls w w') (hls : ∀ p ∈ ls, ∃ i : Nat, bs[i]? = some p) (n : Nat) {v : Value} {l : List Int} (hn : bs[n]? = some (v, l)) (hnl : ∀ p ∈ ls, ∃ i : Nat, i ≠ n ∧ bs[i]? = some p) :
    Yard W w' [(v, l)] ds := by
  have hs := h.bel.size
  have hlow : ∀ k, k < W.heap.size → ∀ p ∈ ls, p.1.ownBlock ≠ some k := fun k hk p hp e => by
    obtain ⟨i, hi⟩ := hls p hp
    have := ((h.ob i p hi).lt k e).1
    omega
  have hv : ∀ k, v.ownBlock = some k → ∀ p ∈ ls, p.1.ownBlock ≠ some k := fun k hk p hp e => by
    obtain ⟨i, hne, hi⟩ := hnl p hp
    exact h.bsep i n p _ hi hn hne k e hk
  refine ⟨⟨hk.os.trans h.bel.os, hk.tape.trans h.bel.tape, hk.output.trans h.bel.output, Nat.le_trans hs hk.size, fun k hk2 => ?_⟩, fun i p hp => ?_, fun i j p q hp hq hne => ?_, fun i d hd => ?_, h.up, h.dsep, fun i j p d hp hd => ?_⟩
  · rw [hk.block k (by omega) (hlow k hk2)]
    exact h.bel.block k hk2
  · match i, hp with
    | 0, hp =>
      simp at hp
      subst hp
      exact (h.ob n _ hn).move fun k hk2 => hk.block k ((h.ob n _ hn).lt k hk2).2 (hv k hk2)
    | i + 1, hp => simp at hp
  · have e1 := (List.getElem?_eq_some_iff.1 hp).1
    have e2 := (List.getElem?_eq_some_iff.1 hq).1
    simp at e1 e2
    omega
  · exact (h.rep i d hd).far hk.size fun k hk2 => hk.block k (by
      by_cases hl : k < w.heap.size
      · exact hl
      · exact absurd ((h.rep i d hd).sup' (by omega)) hk2) (fun p hp e => by
        obtain ⟨j, hj⟩ := hls p hp
        exact hk2 (h.cross j i p d hj hd k e))
  · match i, hp with
    | 0, hp =>
      simp at hp
      subst hp
      exact h.cross n j _ d hn hd
    | i + 1, hp => simp at hp

theorem Yard.first {W w : World} {v : Value} {l : List Int} (hb : Below W.heap.size W w) (ho : OB w W.heap.size v l) : Yard W w [(v, l)] [] := by
  refine ⟨hb, fun i p hp => ?_, fun i j p q hp hq hne => ?_, (fun i d hd => by simp at hd), (fun i d hd => by simp at hd), (fun i j d e hd => by simp at hd), (fun i j p d hp hd => by simp at hd)⟩
  · match i, hp with
    | 0, hp => simp at hp; subst hp; exact ho
    | i + 1, hp => simp at hp
  · have e1 := (List.getElem?_eq_some_iff.1 hp).1
    have e2 := (List.getElem?_eq_some_iff.1 hq).1
    simp at e1 e2
    omega

theorem Spare.below {w w' : World} {v : Value} {n : Nat} (h : Spare w v n) (hb : Below w.heap.size w w') : Spare w' v n := by
  obtain ⟨g, rfl, h⟩ := h
  exact ⟨g, rfl, fun j hj => by rw [hb.cell (World.block_lt_of_cell? _ _ (h j hj)), h j hj]⟩

theorem Spare.fr {w w' : World} {K K' : Nat → Nat} {v : Value} {n : Nat} (h : Spare w v n) (hr : Role K v 0) (hF : Fr K K' w w') : Spare w' v n := by
  obtain ⟨g, rfl, h⟩ := h
  exact ⟨g, rfl, fun j hj => by rw [World.cell?_of_block (hF.block g (World.block_lt_of_cell? _ _ (h j hj)) (.inl (hr g rfl))), h j hj]⟩

theorem Spare.mark {w w' : World} {v : Value} {n : Nat} (h : Spare w v n) (hc : ∀ g j, v.ownBlock = some g → n ≤ j → w'.cell? ⟨g, j, none⟩ = w.cell? ⟨g, j, none⟩) : Spare w' v n := by
  obtain ⟨g, rfl, h⟩ := h
  exact ⟨g, rfl, fun j hj => by rw [hc g (n + j) rfl (by omega), h j hj]⟩
end Go.Proofs.Yteiajeeincapoab
