import Derived.Test.YtlidmhdcikcpkaaGDfn
import Derived.Test.YtlidmhdcikcpkaaGApy
namespace Go.Proofs.Ytlidmhdcikcpkaa
set_option linter.unusedVariables false

/-! What the spans of the changed places are like. -/
def chg (O N : List Int) (p : Nat) : Prop := N.getD p 0 ≠ O.getD p 0
def Inn (O N : List Int) (s : Sp) : Prop := chg O N s.1 ∧ chg O N (s.2 - 1) ∧ ∀ p, s.1 ≤ p → p < s.2 → ∃ q, s.1 ≤ q ∧ q ≤ p ∧ p ≤ q + 8 ∧ chg O N q
def Cov (O N : List Int) (k : Nat) (S : List Sp) : Prop := (∀ p, p < k → chg O N p → ∃ s ∈ S, s.1 ≤ p ∧ p < s.2) ∧ ∀ s ∈ S, Inn O N s

theorem ch_cov (O N : List Int) : ∀ k, Cov O N k (chS O N k)
  | 0 => ⟨fun p hp => by omega, fun s hs => by simp [chS] at hs⟩
  | k + 1 => by
    obtain ⟨h1, h2⟩ := ch_cov O N k
    have hin := ch_in (O := O) (N := N) (k := k)
    unfold chS
    split
    · rename_i he
      refine ⟨fun p hp hc => ?_, h2⟩
      by_cases hpk : p = k
      · subst hpk; exact absurd he hc
      · exact h1 p (by omega) hc
    · rename_i hne
      have hck : chg O N k := hne
      unfold cs1
      generalize chS O N k = S at h1 h2 hin
      split
      · rename_i hc
        obtain ⟨hS, hp8⟩ := hc
        have e := sl_split hS
        have hl := hin _ (sl_mem hS)
        have hi := h2 _ (sl_mem hS)
        refine ⟨fun p hp hc => ?_, fun s hs => ?_⟩
        · by_cases hpk : p = k
          · subst hpk
            exact ⟨_, List.mem_append_right _ (List.mem_singleton.2 rfl), by simp only; omega, by simp only; omega⟩
          · obtain ⟨s, hs, q1, q2⟩ := h1 p (by omega) hc
            rw [← e] at hs
            rcases List.mem_append.1 hs with hs | hs
            · exact ⟨s, List.mem_append_left _ hs, q1, q2⟩
            · rw [List.mem_singleton.1 hs] at q1 q2
              exact ⟨_, List.mem_append_right _ (List.mem_singleton.2 rfl), q1, by simp only; omega⟩
        · rcases List.mem_append.1 hs with hs | hs
          · exact h2 s (by rw [← e]; exact List.mem_append_left _ hs)
          · rw [List.mem_singleton.1 hs]
            refine ⟨hi.1, by simpa using hck, fun p hp1 hp2 => ?_⟩
            simp only at hp1 hp2
            by_cases hpt : p < (sl S).2
            · exact hi.2.2 p hp1 hpt
            · by_cases hpk : p = k
              · subst hpk
                exact ⟨p, hp1, Nat.le_refl _, by omega, hck⟩
              · exact ⟨(sl S).2 - 1, by simp only; omega, by omega, by omega, hi.2.1⟩
      · refine ⟨fun p hp hc => ?_, fun s hs => ?_⟩
        · by_cases hpk : p = k
          · subst hpk
            exact ⟨_, List.mem_append_right _ (List.mem_singleton.2 rfl), Nat.le_refl _, Nat.lt_succ_self _⟩
          · obtain ⟨s, hs, q1, q2⟩ := h1 p (by omega) hc
            exact ⟨s, List.mem_append_left _ hs, q1, q2⟩
        · rcases List.mem_append.1 hs with hs | hs
          · exact h2 s hs
          · rw [List.mem_singleton.1 hs]
            refine ⟨hck, by simpa using hck, fun p hp1 hp2 => ?_⟩
            simp only at hp1 hp2
            have : p = k := by omega
            subst this
            exact ⟨p, Nat.le_refl _, Nat.le_refl _, by omega, hck⟩

/-- Where the span ahead of a place in the list ends. -/
def bnd : Nat → List Sp → Nat → Nat
  | e, _, 0 => e
  | e, [], _ + 1 => e
  | _, s :: S, i + 1 => bnd s.2 S i
theorem bnd_step : ∀ (S : List Sp) (e i : Nat), i < S.length → bnd e S (i + 1) = (S.getD i (0, 0)).2
  | [], e, i, h => by simp at h
  | s :: S, e, 0, h => by cases S <;> rfl
  | s :: S, e, i + 1, h => bnd_step S s.2 i (by simpa using h)
theorem bnd_low : ∀ (S : List Sp) (e m i : Nat), SpOk m S → e ≤ m → e ≤ bnd e S i ∧ ∀ s ∈ S.take i, s.2 ≤ bnd e S i
  | [], e, m, 0, h, he => ⟨Nat.le_refl _, fun s hs => by simp at hs⟩
  | [], e, m, i + 1, h, he => ⟨Nat.le_refl _, fun s hs => by simp at hs⟩
  | s :: S, e, m, 0, h, he => ⟨Nat.le_refl _, fun s hs => by simp at hs⟩
  | s :: S, e, m, i + 1, h, he => by
    obtain ⟨h1, h2, h3⟩ := h
    obtain ⟨q1, q2⟩ := bnd_low S s.2 (s.2 + 9) i h3 (by omega)
    refine ⟨by unfold bnd; omega, fun x hx => ?_⟩
    rw [List.take_succ_cons] at hx
    rcases List.mem_cons.1 hx with rfl | hx
    · exact q1
    · exact q2 x hx
theorem bnd_high : ∀ (S : List Sp) (e m i : Nat), SpOk m S → e ≤ m → i < S.length → (bnd e S i ≤ (S.getD i (0, 0)).1 ∧ (0 < i → bnd e S i + 9 ≤ (S.getD i (0, 0)).1)) ∧ ∀ s ∈ S.drop i, (S.getD i (0, 0)).1 ≤ s.1
  | [], e, m, i, h, he, hi => by simp at hi
  | s :: S, e, m, 0, h, he, hi => by
    obtain ⟨h1, h2, h3⟩ := h
    refine ⟨⟨by show e ≤ s.1; omega, fun h => by omega⟩, fun x hx => ?_⟩
    rcases List.mem_cons.1 hx with rfl | hx
    · exact Nat.le_refl _
    · have := spOk_mem S _ h3 x hx
      show s.1 ≤ x.1
      omega
  | s :: S, e, m, i + 1, h, he, hi => by
    obtain ⟨h1, h2, h3⟩ := h
    obtain ⟨⟨q1, q2⟩, q3⟩ := bnd_high S s.2 (s.2 + 9) i h3 (by omega) (by simpa using hi)
    refine ⟨⟨q1, fun _ => ?_⟩, q3⟩
    by_cases h0 : i = 0
    · subst h0
      have hne : 0 < S.length := by simpa using hi
      have hm := spOk_mem S _ h3 (S.getD 0 (0, 0)) (by simp [List.getD, hne])
      show s.2 + 9 ≤ (S.getD 0 (0, 0)).1
      exact hm.1
    · exact q2 (by omega)

theorem ch_gap {O N : List Int} {k i p : Nat} (hi : i < (chS O N k).length) (h1 : bnd 0 (chS O N k) i ≤ p) (h2 : p < ((chS O N k).getD i (0, 0)).1) : ¬ chg O N p := by
  intro hc
  obtain ⟨ho, hin⟩ := ch_ok O N k
  have hm : ((chS O N k).getD i (0, 0)) ∈ chS O N k := by simp [List.getD, hi]
  have hb := ch_in _ hm
  obtain ⟨s, hs, q1, q2⟩ := (ch_cov O N k).1 p (by omega) hc
  rw [← List.take_append_drop i (chS O N k)] at hs
  rcases List.mem_append.1 hs with hs | hs
  · have := (bnd_low _ 0 0 i ho (Nat.le_refl _)).2 s hs
    omega
  · have := (bnd_high _ 0 0 i ho (Nat.le_refl _) hi).2 s hs
    omega
theorem ch_end {O N : List Int} {k p : Nat} (h1 : bnd 0 (chS O N k) (chS O N k).length ≤ p) (h2 : p < k) : ¬ chg O N p := by
  intro hc
  obtain ⟨ho, hin⟩ := ch_ok O N k
  obtain ⟨s, hs, q1, q2⟩ := (ch_cov O N k).1 p h2 hc
  have := (bnd_low _ 0 0 (chS O N k).length ho (Nat.le_refl _)).2 s (by rw [List.take_length]; exact hs)
  omega
theorem bnd_in {O N : List Int} {k i : Nat} (hi : i ≤ (chS O N k).length) : bnd 0 (chS O N k) i ≤ k := by
  cases i with
  | zero => cases chS O N k <;> exact Nat.zero_le _
  | succ i =>
    rw [bnd_step _ 0 i (by omega)]
    exact (ch_in _ (show ((chS O N k).getD i (0, 0)) ∈ chS O N k by simp [List.getD, show i < (chS O N k).length by omega])).2

/-- The count of unchanged places. -/
def Stl (O N : List Int) (a p st : Nat) : Prop := (p = a ∧ st = 9) ∨ ∃ q, a ≤ q ∧ q < p ∧ chg O N q ∧ (∀ r, q < r → r < p → ¬ chg O N r) ∧ st = p - 1 - q
theorem stl_yes {O N : List Int} {a p : Nat} (h : a ≤ p) (hc : chg O N p) : Stl O N a (p + 1) 0 := .inr ⟨p, h, Nat.lt_succ_self _, hc, fun r h1 h2 => by omega, by omega⟩
theorem stl_no {O N : List Int} {s : Sp} {p st : Nat} (hi : Inn O N s) (h0 : s.1 ≤ p) (h1 : p < s.2) (hs : Stl O N s.1 p st) (hc : ¬ chg O N p) : Stl O N s.1 (p + 1) (st + 1) ∧ st + 1 ≤ 8 := by
  rcases hs with ⟨rfl, _⟩ | ⟨q, a1, a2, a3, a4, a5⟩
  · exact absurd hi.1 hc
  · obtain ⟨q', b1, b2, b3, b4⟩ := hi.2.2 p h0 h1
    have hle : q' ≤ q := by
      rcases Nat.lt_or_ge q q' with h | h
      · by_cases e : q' = p
        · rw [e] at b4; exact absurd b4 hc
        · exact absurd b4 (a4 q' h (by omega))
      · exact h
    exact ⟨.inr ⟨q, a1, by omega, a3, fun r r1 r2 => by
      by_cases e : r = p
      · rw [e]; exact hc
      · exact a4 r r1 (by omega), by omega⟩, by omega⟩
theorem stl_end {O N : List Int} {s : Sp} {st : Nat} (hi : Inn O N s) (h1 : s.1 < s.2) (hs : Stl O N s.1 s.2 st) : st = 0 := by
  rcases hs with ⟨h, _⟩ | ⟨q, a1, a2, a3, a4, a5⟩
  · omega
  · by_cases e : q = s.2 - 1
    · omega
    · exact absurd hi.2.1 (a4 (s.2 - 1) (by omega) (by omega))
theorem stl_small {O N : List Int} {s : Sp} {p st : Nat} (hs : Stl O N s.1 p st) (hp : p ≤ 1048576) : st ≤ 1048576 := by
  rcases hs with ⟨_, rfl⟩ | ⟨q, a1, a2, a3, a4, a5⟩ <;> omega

/-- Nothing is changed between equals. -/
theorem ch_self (N : List Int) : ∀ k, chS N N k = []
  | 0 => rfl
  | k + 1 => by unfold chS; rw [if_pos rfl]; exact ch_self N k

/-- The writes carried out make the one of the other. -/
theorem apW_get {L d : List Int} {a p : Nat} (h : a + d.length ≤ L.length) : (apW L a d).getD p 0 = if a ≤ p ∧ p < a + d.length then d.getD (p - a) 0 else L.getD p 0 := by
  have hl : (L.take a).length = a := by rw [List.length_take]; omega
  unfold apW
  simp only [List.getD]
  split
  · rename_i hc
    rw [List.append_assoc, List.getElem?_append_right (by omega), hl, List.getElem?_append_left (by omega)]
  · rename_i hc
    by_cases hp : p < a
    · rw [List.append_assoc, List.getElem?_append_left (by omega), List.getElem?_take, if_pos hp]
    · rw [List.getElem?_append_right (by rw [List.length_append, hl]; omega), List.length_append, hl, List.getElem?_drop, show a + d.length + (p - (a + d.length)) = p by omega]
theorem ext_getD {L M : List Int} (h : L.length = M.length) (hg : ∀ p, p < M.length → L.getD p 0 = M.getD p 0) : L = M := by
  apply List.ext_getElem h
  intro i h1 h2
  have := hg i h2
  simpa [List.getD, h1, h2] using this
theorem ap_all (N : List Int) : ∀ (S : List Sp) (L : List Int), L.length = N.length → (∀ s ∈ S, s.1 < s.2 ∧ s.2 ≤ N.length) → (∀ p, p < N.length → L.getD p 0 = N.getD p 0 ∨ ∃ s ∈ S, s.1 ≤ p ∧ p < s.2) → (wrs N S).foldl (fun L p => apW L p.1.toNat p.2) L = N
  | [], L, hl, _, h => ext_getD hl (fun p hp => (h p hp).elim id (fun ⟨s, hs, _⟩ => by cases hs))
  | s :: S, L, hl, hi, h => by
    have h1 := hi s (List.mem_cons_self ..)
    have hln := prt_len (N := N) (s := s) (by omega) h1.2
    show (wrs N S).foldl _ (apW L (prt N s).1.toNat (prt N s).2) = N
    have ea : (prt N s).1.toNat = s.1 := by unfold prt; simp
    rw [ea]
    have hfit : s.1 + (prt N s).2.length ≤ L.length := by rw [hln, hl]; omega
    refine ap_all N S _ (by rw [apW_len hfit]; exact hl) (fun x hx => hi x (List.mem_cons_of_mem _ hx)) (fun p hp => ?_)
    rw [apW_get hfit, hln]
    split
    · rename_i hc
      left
      unfold prt
      simp only [List.getD]
      rw [List.getElem?_take, if_pos (by omega), List.getElem?_drop, show s.1 + (p - s.1) = p by omega]
    · rename_i hc
      rcases h p hp with q | ⟨x, hx, q1, q2⟩
      · exact .inl q
      · rcases List.mem_cons.1 hx with rfl | hx
        · exact absurd ⟨q1, by omega⟩ hc
        · exact .inr ⟨x, hx, q1, q2⟩
theorem ap0_get {C : List Int} {n p : Nat} (h : p < n) : (ap0 C n).getD p 0 = C.getD p 0 := by
  unfold ap0
  simp only [List.getD]
  by_cases hp : p < C.length
  · rw [List.getElem?_append_left (by rw [List.length_take]; omega), List.getElem?_take, if_pos h]
  · rw [List.getElem?_append_right (by rw [List.length_take]; omega), List.getElem?_replicate, show C[p]? = none from List.getElem?_eq_none (by omega)]
    split <;> rfl
theorem ap_diff (O N : List Int) : apl O N.length (wrs N (chS O N N.length)) = N := by
  refine ap_all N _ _ (ap0_len _ _) (fun s hs => ch_in s hs) (fun p hp => ?_)
  rw [ap0_get hp]
  by_cases hc : chg O N p
  · exact .inr ((ch_cov O N N.length).1 p hp hc)
  · left
    unfold chg at hc
    by_cases e : N.getD p 0 = O.getD p 0
    · exact e.symm
    · exact absurd e hc

theorem rgt_spans (n : Nat) : ∀ (S : List Sp) (m : Nat) (e : Int), SpOk m S → e ≤ (m : Int) → SpIn n S → rgt (n : Int) (S.map fun s => (((s.1 : Nat) : Int), s.2 - s.1)) e = true
  | [], m, e, h, he, hi => rfl
  | s :: S, m, e, h, he, hi => by
    obtain ⟨h1, h2, h3⟩ := h
    have hn := hi s (List.mem_cons_self ..)
    simp only [List.map_cons, rgt]
    rw [if_neg (by omega)]
    exact rgt_spans n S (s.2 + 9) _ h3 (by omega) (fun x hx => hi x (List.mem_cons_of_mem _ hx))
theorem nms_wrs {N : List Int} {S : List Sp} {R : List We} (h : prs R = wrs N S) (hi : ∀ s ∈ S, s.1 < s.2 ∧ s.2 ≤ N.length) : nms R = S.map fun s => (((s.1 : Nat) : Int), s.2 - s.1) := by
  have e : nms R = (prs R).map fun p => (p.1, p.2.length) := by simp [nms, prs, We.n]
  rw [e, h]
  unfold wrs
  rw [List.map_map]
  apply List.map_congr_left
  intro s hs
  have h1 := hi s hs
  have := prt_len (N := N) (s := s) (by omega) h1.2
  simp only [Function.comp]
  rw [this]
  rfl
theorem ap_done {O N : List Int} {R : List We} (h : prs R = wrs N (chS O N N.length)) (hO : O.length ≤ 16777216) (hN : N.length ≤ 16777216) : apE O.length (N.length : Int) (nms R) = 0 ∧ apR O (N.length : Int) R = N := by
  have hok := ch_ok O N N.length
  have hr : rgt (N.length : Int) (nms R) 0 = true := by
    rw [nms_wrs h (fun s hs => ch_in s hs)]
    exact rgt_spans N.length _ 0 0 hok.1 (Int.le_refl _) hok.2
  have e : apE O.length (N.length : Int) (nms R) = 0 := by
    unfold apE
    rw [if_neg (fun q => q.elim (fun x => absurd x (by omega)) (fun x => x ⟨by omega, by omega⟩)), if_neg (by rw [hr]; decide)]
  refine ⟨e, ?_⟩
  unfold apR
  rw [if_pos e, h, Int.toNat_natCast]
  exact ap_diff O N
theorem prs_elem {N : List Int} {S : List Sp} {R : List We} (h : prs R = wrs N S) {i : Nat} (hi : i < S.length) : i < R.length ∧ (R.getD i we0).at' = ((S.getD i (0, 0)).1 : Int) ∧ (R.getD i we0).l = (N.drop (S.getD i (0, 0)).1).take ((S.getD i (0, 0)).2 - (S.getD i (0, 0)).1) := by
  have hl : R.length = S.length := by have := congrArg List.length h; simpa [prs, wrs] using this
  have e1 : (prs R)[i]? = (wrs N S)[i]? := by rw [h]
  have hi2 : i < R.length := by omega
  simp only [prs, wrs, List.getElem?_map, List.getElem?_eq_getElem hi, List.getElem?_eq_getElem hi2, Option.map_some, Option.some.injEq, prt, Prod.mk.injEq] at e1
  refine ⟨hi2, ?_⟩
  simp only [List.getD, List.getElem?_eq_getElem hi, List.getElem?_eq_getElem hi2, Option.getD_some]
  exact e1
theorem part_get {N : List Int} {a b p : Nat} (h1 : a ≤ p) (h2 : p < b) : ((N.drop a).take (b - a)).getD (p - a) 0 = N.getD p 0 := by
  simp only [List.getD]
  rw [List.getElem?_take, if_pos (by omega), List.getElem?_drop, show a + (p - a) = p by omega]
end Go.Proofs.Ytlidmhdcikcpkaa

