import Derived.Test.YteiajeeincapoabRuns
namespace Go.Proofs.Yteiajeeincapoab
open Go.RowKit Go.Maps

structure Torn (st : St) (ms : List (List Int)) : Prop where
  dl : st.dur.length ≤ st.now.length
  pl : ∀ s, ∀ p ∈ st.pcs s, endP p ≤ st.now.length
  sec : ∀ s k, k ≤ (st.pcs s).length → ∃ m ∈ ms, ∀ i, i / 512 = s → pcsAt ((st.pcs s).take k) i (st.dur.getD i 0) = m.getD i 0
  size : ∀ n, n ∈ st.sizes ∨ n = st.dur.length → ∃ m ∈ ms, m.length = n

theorem getD_behind (l : List Int) (i : Nat) (h : l.length ≤ i) : l.getD i 0 = 0 := by
  simp only [List.getD]
  rw [List.getElem?_eq_none h]
  rfl

theorem torn_full {st : St} (hk : KInv st) (dl : st.dur.length ≤ st.now.length) (pl : ∀ s, ∀ p ∈ st.pcs s, endP p ≤ st.now.length) (i : Nat) : pcsAt (st.pcs (i / 512)) i (st.dur.getD i 0) = st.now.getD i 0 := by
  by_cases h : i < st.now.length
  · exact hk.all i h
  · rw [pcsAt_none _ _ _ (fun p hp hc => by have := pl _ p hp; unfold Cov at hc; omega), getD_behind _ _ (by omega), getD_behind _ _ (by omega)]

theorem Torn.ext {st st' : St} {ms : List (List Int)} (h : Torn st ms) (hk : KInv st') (hd : st'.dur = st.dur) (hl : st.dur.length ≤ st'.now.length) (hp : ∀ s, ∀ p ∈ st'.pcs s, endP p ≤ st'.now.length)
    (hpc : ∀ s, st'.pcs s = st.pcs s ∨ ∃ q, st'.pcs s = st.pcs s ++ [q]) (hsz : ∀ n ∈ st'.sizes, n ∈ st.sizes ∨ n = st'.now.length) : Torn st' (ms ++ [st'.now]) := by
  refine ⟨by rw [hd]; exact hl, hp, fun s k hkl => ?_, fun n hn => ?_⟩
  · by_cases hle : k ≤ (st.pcs s).length
    · obtain ⟨m, hm, he⟩ := h.sec s k hle
      refine ⟨m, List.mem_append_left _ hm, fun i hi => ?_⟩
      have e : (st'.pcs s).take k = (st.pcs s).take k := by
        rcases hpc s with e | ⟨q, e⟩
        · rw [e]
        · rw [e, List.take_append_of_le_length hle]
      rw [e, hd]
      exact he i hi
    · have e : (st'.pcs s).take k = st'.pcs s := by
        rcases hpc s with e | ⟨q, e⟩
        · rw [e] at hkl; omega
        · rw [List.take_of_length_le]
          rw [e] at hkl ⊢
          simp at hkl ⊢
          omega
      refine ⟨st'.now, by simp, fun i hi => ?_⟩
      subst hi
      rw [e]
      exact torn_full hk (by rw [hd]; exact hl) hp i
  · rcases hn with hn | hn
    · rcases hsz n hn with h1 | h1
      · obtain ⟨m, hm, he⟩ := h.size n (.inl h1)
        exact ⟨m, List.mem_append_left _ hm, he⟩
      · exact ⟨st'.now, by simp, h1.symm⟩
    · obtain ⟨m, hm, he⟩ := h.size n (.inr (by rw [hn, hd]))
      exact ⟨m, List.mem_append_left _ hm, he⟩

theorem Torn.same {st st' : St} {ms : List (List Int)} (h : Torn st ms) (hk : KInv st') (e1 : st'.now = st.now) (e2 : st'.dur = st.dur) (e3 : st'.pcs = st.pcs) (e4 : st'.sizes = st.sizes) : Torn st' (ms ++ [st'.now]) :=
  h.ext hk e2 (by rw [e1]; exact h.dl) (by rw [e1, e3]; exact h.pl) (fun s => .inl (by rw [e3])) (fun n hn => .inl (by rw [← e4]; exact hn))

theorem growSt_sizes' (st : St) (e : Nat) : ∀ n ∈ (growSt st e).sizes, n ∈ st.sizes ∨ n = (growSt st e).now.length := by
  intro n hn
  rw [growSt_len]
  unfold growSt at hn
  split at hn
  · rename_i hlt
    rcases List.mem_append.1 hn with h | h
    · exact .inl h
    · have := List.mem_singleton.1 h
      exact .inr (by omega)
  · exact .inl hn

theorem Torn.lay {st : St} {ms : List (List Int)} (h : Torn st ms) (hk : KInv st) (p : Nat × Nat × List Int) (hp : p.1 ≤ st.now.length) : Torn (layAll st p) (ms ++ [(layAll st p).now]) := by
  have hdl := h.dl
  refine h.ext (hk.lay p hp) (layAll_dur st p) (by rw [layAll_len]; omega) (fun s q hq => ?_) (fun s => ?_) (fun n hn => ?_)
  · rw [layAll_len]
    rw [layAll_pcs, pcsTo_end] at hq
    split at hq
    · rcases List.mem_append.1 hq with hq | hq
      · have := h.pl s q hq; omega
      · rw [List.mem_singleton.1 hq, endP_partP p _ _ (by omega) (by omega) (by omega)]
        omega
    · have := h.pl s q hq; omega
  · rw [layAll_pcs, pcsTo_end]
    split
    · exact .inr ⟨_, rfl⟩
    · exact .inl rfl
  · rcases growSt_sizes' st (endP p) n hn with h1 | h1
    · exact .inl h1
    · right
      rw [h1, growSt_len, layAll_len]

theorem Torn.spent {st : St} {ms : List (List Int)} (h : Torn st ms) : Torn (spendSt st) ms := by
  obtain ⟨e1, e2, e3, e4, e5, e6⟩ := spend_same st
  exact ⟨by rw [e2, e3]; exact h.dl, by rw [e2, e4]; exact h.pl, by rw [e3, e4]; exact h.sec, by rw [e3, e5]; exact h.size⟩

theorem Torn.write {st : St} {ms : List (List Int)} (h : Torn st ms) (hk : KInv st) (off : Int) (data : List Int) : Torn (writeSt st off data) (ms ++ [(writeSt st off data).now]) := by
  obtain ⟨e1, e2, e3, e4, e5, e6⟩ := spend_same st
  unfold writeSt
  split
  · exact h.same hk rfl rfl rfl rfl
  · split
    · exact h.same hk rfl rfl rfl rfl
    · split
      · exact h.same hk rfl rfl rfl rfl
      · split
        · exact h.same hk.spend e2 e3 e4 e5
        · split
          · exact h.same hk.spend e2 e3 e4 e5
          · exact h.spent.lay hk.spend _ (by rw [e2]; show min _ _ ≤ _; omega)

theorem Torn.trunc {st : St} {ms : List (List Int)} (h : Torn st ms) (hk : KInv st) (n : Int) (hn : ¬ n < st.now.length) : Torn (truncSt st n) (ms ++ [(truncSt st n).now]) := by
  obtain ⟨e1, e2, e3, e4, e5, e6⟩ := spend_same st
  unfold truncSt
  split
  · exact h.same hk rfl rfl rfl rfl
  · split
    · exact h.same hk rfl rfl rfl rfl
    · split
      · exact h.same hk rfl rfl rfl rfl
      · split
        · exact h.same hk.spend e2 e3 e4 e5
        · split
          · exact h.spent.lay hk.spend _ (by rw [e2]; exact Nat.le_refl _)
          · first
              | exact h.same hk.spend e2 e3 e4 e5
              | (split
                 · exact absurd (by assumption) hn
                 · exact h.same hk.spend e2 e3 e4 e5)

theorem Torn.op {st : St} {ms : List (List Int)} (h : Torn st ms) (hk : KInv st) (o : OpP) (h4 : o.kind ≠ 4) (hn : ¬ (o.kind = 3 ∧ o.a < st.now.length)) : Torn (opSt st o) (ms ++ [(opSt st o).now]) := by
  unfold opSt
  split
  · exact h.write hk _ _
  · split
    · rename_i h3
      exact h.trunc hk _ (fun e => hn ⟨h3, e⟩)
    · first | rw [if_neg h4]; exact h.same hk rfl rfl rfl rfl | exact h.same hk rfl rfl rfl rfl

theorem Torn.sync {st : St} (h1 : st.dur = st.now) (h2 : ∀ s, st.pcs s = []) (h3 : st.sizes = []) : Torn st [st.now] := by
  refine ⟨by rw [h1]; exact Nat.le_refl _, (fun s p hp => by rw [h2 s] at hp; cases hp), fun s k _ => ⟨st.now, by simp, fun i _ => by rw [h2 s, List.take_nil, h1]; rfl⟩, fun n hn => ⟨st.now, by simp, ?_⟩⟩
  rcases hn with h | h
  · rw [h3] at h; cases h
  · rw [h, h1]

def secB (out m : List Int) (s : Nat) : Prop := ∀ i, i / 512 = s → i < out.length → out.getD i 0 = m.getD i 0

theorem Torn.out {st : St} {ms : List (List Int)} (h : Torn st ms) (hk : KInv st) (c : Int × List Int × Int) : (∃ m ∈ ms, m.length = (outcomeL st c).length) ∧ ∀ s, ∃ m ∈ ms, secB (outcomeL st c) m s := by
  constructor
  · rw [length_outcomeL]
    apply h.size
    unfold behind
    split
    · rename_i hk0
      left
      have : keptN c.1 st.sizes.length ≤ st.sizes.length := by unfold keptN; omega
      rw [List.getD, List.getElem?_eq_getElem (by omega)]
      exact List.getElem_mem _
    · exact .inr rfl
  · intro s
    obtain ⟨m, hm, he⟩ := h.sec s (keptN (wantedN c.2.1 c.2.2 s) (st.pcs s).length) (by unfold keptN; omega)
    refine ⟨m, hm, fun i hi hl => ?_⟩
    subst hi
    rw [length_outcomeL] at hl
    rw [getD_outcomeL hk.bd _ _ hl]
    exact he i rfl
end Go.Proofs.Yteiajeeincapoab
