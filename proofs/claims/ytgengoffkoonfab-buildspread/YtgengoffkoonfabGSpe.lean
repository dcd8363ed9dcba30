import Derived.Test.YtgengoffkoonfabGSpd
namespace Go.Proofs.Ytgengoffkoonfab
open Go.RowKit Go.Maps
set_option maxRecDepth 20000
set_option linter.unusedVariables false

theorem nodup_inj {g : Nat → Nat} (hg : ∀ a b, g a = g b → a = b) {l : List Nat} (h : l.Nodup) : (l.map g).Nodup := by
  unfold List.Nodup at *
  rw [List.pairwise_map]
  exact h.imp fun hab e => hab (hg _ _ e)

/-- What gaps change: nothing but places. -/
theorem wide_facts {f : List Int} {P : Gps} (hs : Sound f) (h : Gok P f.length) (hl : P.length ≤ 288) :
    Sound (wid f P) ∧ (us (wid f P)).length = (us f).length ∧ (∀ i (hi : i < P.length), (P[i] = none → dp (wid f P) i = 0 ∧ ∀ L, lm (wid f P) L i = 0) ∧ ∀ s, P[i] = some s → s < f.length ∧ dp (wid f P) i = dp f s ∧ ∀ L, lm (wid f P) L i = lm f L s) := by
  obtain ⟨g, g1, g2, g3, g4⟩ := gok_pos h
  have hval : ∀ s, s < f.length → (wid f P).getD (g s) 0 = f.getD s 0 := fun s hs' => by
    obtain ⟨q1, q2⟩ := g3 s hs'
    rw [wid_get f P q1, q2]
  have hsound : Sound (wid f P) := by
    refine ⟨by rw [wid_len]; exact hl, fun i hi => ?_⟩
    rw [wid_len] at hi
    rw [wid_get f P hi]
    cases e : P[i] with
    | none => simp
    | some s => exact hs.ok s (g4 i hi s e).1
  have hmem : ∀ s, s ∈ us f → g s ∈ us (wid f P) := fun s hm => by
    obtain ⟨a, b⟩ := mem_us.1 hm
    exact mem_us.2 ⟨by rw [wid_len]; exact (g3 s a).1, by rw [hval s a]; exact b⟩
  have hmem2 : ∀ i, i ∈ us (wid f P) → ∃ s, s ∈ us f ∧ g s = i := fun i hm => by
    obtain ⟨a, b⟩ := mem_us.1 hm
    rw [wid_len] at a
    rw [wid_get f P a] at b
    cases e : P[i] with
    | none => rw [e] at b; simp at b
    | some s =>
      rw [e] at b
      obtain ⟨r1, r2⟩ := g4 i a s e
      exact ⟨s, mem_us.2 ⟨r1, b⟩, r2⟩
  have hus : us (wid f P) = (us f).map g := by
    have hp : ((us f).map g).Perm (us (wid f P)) := by
      refine (List.perm_ext_iff_of_nodup ?_ (us_nodup _)).2 fun i => ?_
      · exact nodup_inj g1 (us_nodup f)
      · rw [List.mem_map]
        constructor
        · rintro ⟨s, hm, rfl⟩; exact hmem s hm
        · intro hm; obtain ⟨s, a, b⟩ := hmem2 i hm; exact ⟨s, a, b⟩
    refine (hp.eq_of_pairwise (le := (· < ·)) (fun a b _ _ x y => by omega) ?_ (us_rise _)).symm
    rw [List.pairwise_map]
    exact (us_rise f).imp_of_mem fun {a b} ha hb hab => g2 a b hab (mem_us.1 hb).1
  have hul : (us (wid f P)).length = (us f).length := by rw [hus, List.length_map]
  have hfq : ∀ s ∈ us f, fq (wid f P) (g s) = fq f s := fun s hm => by unfold fq; rw [hval s (mem_us.1 hm).1]
  have hleaf : leafs (fq (wid f P)) (us (wid f P)) = rn g (leafs (fq f) (us f)) := by
    rw [hus]
    unfold leafs rn
    rw [List.map_map, List.map_map]
    refine List.map_congr_left fun s hm => ?_
    simp [hfq s hm]
  have hin : ∀ s, s < f.length → (g s ∈ us (wid f P) ↔ s ∈ us f) := fun s hs' => ⟨fun hm => by
    obtain ⟨t, a, b⟩ := hmem2 _ hm
    rwa [← g1 _ _ b], hmem s⟩
  have hdp : ∀ s, s < f.length → dp (wid f P) (g s) = dp f s := fun s hs' => by
    unfold dp
    rw [hul]
    by_cases c : (us f).length = 1
    · rw [if_pos c, if_pos c]
      by_cases d : s ∈ us f
      · rw [if_pos d, if_pos ((hin s hs').2 d)]
      · rw [if_neg d, if_neg fun q => d ((hin s hs').1 q)]
    · rw [if_neg c, if_neg c, hleaf]
      exact hrun_rn g1 _ _ _ _ (fun _ => rfl) s
  have hsrl : srl (wid f P) = (srl f).map g := by
    refine srt_eq (srl_srt _) ⟨?_, ?_⟩
    · rw [hus]; exact (srl_srt f).perm.map g
    · rw [List.pairwise_map]
      refine (srl_srt f).rise.imp_of_mem fun {a b} ha hb hab => ?_
      have ha' := (mem_us.1 (srl_mem.1 ha)).1
      have hb' := (mem_us.1 (srl_mem.1 hb)).1
      unfold Lf at hab ⊢
      rw [hval a ha', hval b hb']
      rcases hab with q | ⟨q, r⟩
      · exact .inl q
      · exact .inr ⟨q, g2 a b r hb'⟩
  have hlws : lws (wid f P) = lws f := by
    unfold lws
    rw [hsrl, List.map_map]
    exact List.map_congr_left fun s hm => hfq s (srl_mem.1 hm)
  have hidx : ∀ s, (List.idxOf (g s) ((srl f).map g)) = List.idxOf s (srl f) := fun s => by
    generalize srl f = l
    induction l with
    | nil => rfl
    | cons a r ih =>
      simp only [List.map_cons, List.idxOf_cons]
      by_cases c : a = s
      · subst c; simp
      · have this : ¬ g a = g s := fun e => c (g1 _ _ e)
        have e1 : (g a == g s) = false := by simpa using this
        have e2 : (a == s) = false := by simpa using c
        rw [e1, e2, ih]
  have hlm : ∀ L s, s < f.length → lm (wid f P) L (g s) = lm f L s := fun L s hs' => by
    unfold lm
    rw [hul, hlws, hsrl, hidx]
    by_cases d : s ∈ us f
    · rw [if_pos d, if_pos d, if_pos ((hin s hs').2 d), if_pos ((hin s hs').2 d)]
    · rw [if_neg d, if_neg d, if_neg fun q => d ((hin s hs').1 q), if_neg fun q => d ((hin s hs').1 q)]
  refine ⟨hsound, hul, fun i hi => ⟨fun e => ?_, fun s e => ?_⟩⟩
  · have : i ∉ us (wid f P) := fun hm => by
      have := (mem_us.1 hm).2
      rw [wid_get f P hi, e] at this
      simp at this
    exact ⟨dp_out this, fun L => lm_out this⟩
  · obtain ⟨r1, r2⟩ := g4 i hi s e
    exact ⟨r1, by rw [← r2]; exact hdp s r1, fun L => by rw [← r2]; exact hlm L s r1⟩

/-- Two lists of one's own: the one grows, the other stays. -/
theorem grew_other {wr w3 : World} {b : Nat} {u v3 x : Value} {A B : List Int} {o : Obj} (hx : OI wr b x B) (ha : ∀ k, u.ownBlock = some k → x.ownBlock ≠ some k) (hg : Grew (wr.alloc o) w3 u v3) : OI w3 b x B ∧ ∀ k, v3.ownBlock = some k → x.ownBlock ≠ some k := by
  refine ⟨hx.move fun k hk => ?_, fun k hk he => ?_⟩
  · have hlt := (hx.lt k hk).2
    rw [hg.by.block k (by simp; omega) (fun e => ha k e.symm hk)]
    exact Below.heap_alloc wr o k hlt
  · rcases hg.at with q | q
    · rw [q] at hk
      simp at hk
      have := (hx.lt k he).2
      omega
    · rw [q] at hk
      exact ha k hk he
end Go.Proofs.Ytgengoffkoonfab

