import Derived.Test.YtcgeaidegppiaaaDoorGA04
import Derived.Test.YtcgeaidegppiaaaDoorGA05
namespace Go.Proofs.YtcgeaidegppiaaaDoor
open Go.RowKit Go.Maps
set_option maxRecDepth 20000
set_option linter.unusedVariables false

theorem zeroCells_int (n : Nat) : (Builtin.zeroCells #[Value.int .i64 0] n) = (List.replicate n (Value.int .i64 0)).toArray := by
  have e : ∀ k : Nat, [Value.int IntKind.i64 0][k % 1]?.getD default = Value.int .i64 0 := fun k => by simp [Nat.mod_one]
  apply Array.ext'
  simp [Builtin.zeroCells, e, List.map_const']

set_option linter.unusedSimpArgs false in
/-- append of zeros onto nothing: a new block. -/
theorem run_zerosI (w : World) (ty : TypeId) (m : Nat) (hm : 0 < m) (hb : m ≤ 1048576) :
    ∃ C w', (Builtin.append_ #[65, 3] ty #[.slice none 0 0, .int .i64 m]).run Tryd.prog w = .ok (.slice (some ⟨w.heap.size, 0, none⟩) m C) w' ∧ m ≤ C ∧ C ≤ maxLen ∧ (∃ zs : List Value, w'.heap[w.heap.size]? = some (.cells zs.toArray 3 (0, 0)) ∧ zs.length = C) ∧ Below w.heap.size w w' := by
  obtain ⟨i, hi, hz, hsize, hby⟩ := info_parts infoInt
  have ht := Tryd.underlying65
  have hti := Tryd.underlying3
  have hwr : IntKind.i64.wrap (m : Int) = m := by rw [IntKind.wrap_i64]; omega
  have hneg : ¬ ((m : Int) < 0) := by omega
  have hbig : ¬ (281474976710656 < (m : Int)) := by omega
  have hm0 : m ≠ 0 := by omega
  have hge := grownCap_ge w m 0 3
  have hcm := grownCap_le_maxLen w m 0 3 (by unfold maxLen; omega)
  have has : ∀ W : World, (asInt (Value.int .i64 m)).run Tryd.prog W = .ok (m : Int) W := fun _ => rfl
  have hcl : (Value.int .i64 0).cells = #[Value.int .i64 0] := rfl
  have h48 : ¬ (281474976710656 < Builtin.nextslicecap m 0 * 8) := by have := growslice_fits (need := m) (old := 0) (bytes := 8) (by omega) (by omega); omega
  refine ⟨grownCap w m 0 3, w.drew.alloc (.cells ((List.replicate m (Value.int .i64 0)).toArray ++ (List.replicate (grownCap w m 0 3 - m) (Value.int .i64 0)).toArray) 3), ?_, hge, hcm, ⟨List.replicate m (Value.int .i64 0) ++ List.replicate (grownCap w m 0 3 - m) (Value.int .i64 0), ?_, by simp; omega⟩, (Below.refl _ _).drew.alloc (Nat.le_refl _) _⟩
  · have hle : ¬ ((m : Int) ≤ 0) := by omega
    have hsm : ¬ (281474976710656 < (m : Int) * 8) := by omega
    simp [Builtin.append_, run_underlying ht, run_underlying hti, has, hcl, hle, hsm, sizeOf, typeInfo, zeroValue, hi, hz, hsize, hby, hwr, hneg, hbig, hm0, h48, zeroCells_int, Question.forced, run_firstCells_none, newRow, grownCap]
    try (intro h; omega)
  · refine (heap_alloc_new w.drew _).trans ?_
    simp

theorem wpList_zerosI {w : World} {ops : Array Oper} {rest : List Oper} {o : Oper} {a : Act} {Q : Exit → Act → World → Prop} (hgd : o.guard = none) (s x : Operand)
    (ho : o.op = .call { callee := .builtin .append, args := #[s, x], argTypes := #[65, 3] }) (hs : a.eval s = .slice none 0 0) (m : Nat) (M : Int) (hx : a.eval x = .int .i64 M) (hM : M = m) (hm : 0 < m) (hb : m ≤ 1048576)
    (h : ∀ C w', m ≤ C → C ≤ maxLen → (∃ zs : List Value, w'.heap[w.heap.size]? = some (.cells zs.toArray 3 (0, 0)) ∧ zs.length = C) → Below w.heap.size w w' → wpList Tryd.prog ops Q rest (a.put o.dst (.slice (some ⟨w.heap.size, 0, none⟩) m C)) w') :
    wpList Tryd.prog ops Q (o :: rest) a w := by
  refine wpList_plain hgd fun K hK => ?_
  subst hM
  obtain ⟨C, w', hr, h1, h2, h3, h4⟩ := run_zerosI w o.type m hm hb
  unfold Oper.wp
  simp [execOp, ho, resolve, invoke, builtin, hs, hx, hr, Result.andThen]
  exact hK _ _ (h C w' h1 h2 h3 h4)

/-- A list without the zeros at its end, but with at least f lengths. -/
def tlk (l : List Int) (f : Nat) : Nat → Nat
  | 0 => 0
  | n + 1 => if f < n + 1 ∧ l.getD n 0 = 0 then tlk l f n else n + 1
def tln (l : List Int) (f : Nat) : Nat := tlk l f l.length
def trm (l : List Int) (f : Nat) : List Int := l.take (tln l f) ++ List.replicate (f - tln l f) 0

theorem tl_le (l : List Int) (f : Nat) : ∀ n, tlk l f n ≤ n
  | 0 => Nat.le_refl _
  | n + 1 => by simp only [tlk]; split
                · have := tl_le l f n; omega
                · exact Nat.le_refl _
theorem tl_ge (l : List Int) (f : Nat) : ∀ n, f ≤ n → f ≤ tlk l f n
  | 0, h => h
  | n + 1, h => by simp only [tlk]; split
                   · rename_i q; exact tl_ge l f n (by omega)
                   · exact h
theorem tl_low (l : List Int) (f n : Nat) (h : n ≤ f) : tlk l f n = n := by
  cases n with
  | zero => rfl
  | succ n => simp only [tlk]; rw [if_neg (by omega)]
theorem tl_zero (l : List Int) (f : Nat) : ∀ n j, tlk l f n ≤ j → j < n → l.getD j 0 = 0
  | 0, _, _, h => by omega
  | n + 1, j, h1, h2 => by
    simp only [tlk] at h1
    split at h1
    · rename_i q
      by_cases e : j = n
      · rw [e]; exact q.2
      · exact tl_zero l f n j h1 (by omega)
    · omega

theorem tln_le (l : List Int) (f : Nat) : tln l f ≤ l.length := tl_le l f _
theorem trm_len (l : List Int) (f : Nat) : (trm l f).length = max (tln l f) f := by
  unfold trm
  rw [List.length_append, List.length_take, List.length_replicate]
  have := tln_le l f
  omega

theorem trm_all (l : List Int) (f : Nat) (h : ∀ x ∈ l, 0 ≤ x ∧ x ≤ 15) : ∀ x ∈ trm l f, 0 ≤ x ∧ x ≤ 15 := by
  intro x hx
  unfold trm at hx
  rcases List.mem_append.1 hx with e | e
  · exact h x (List.mem_of_mem_take e)
  · rw [List.mem_replicate] at e; omega

/-- What is read beyond the end is a zero: so the lists begin alike. -/
theorem trm_getD (l : List Int) (f j : Nat) : (trm l f).getD j 0 = l.getD j 0 := by
  unfold trm
  simp only [List.getD_eq_getElem?_getD]
  have hle := tln_le l f
  by_cases h : j < tln l f
  · rw [List.getElem?_append_left (by rw [List.length_take]; omega), List.getElem?_take, if_pos h]
  · rw [List.getElem?_append_right (by rw [List.length_take]; omega)]
    have z : (l[j]?).getD 0 = 0 := by
      by_cases q : j < l.length
      · have := tl_zero l f l.length j (by unfold tln at h; omega) q
        rwa [List.getD_eq_getElem?_getD] at this
      · rw [List.getElem?_eq_none (by omega)]; rfl
    rw [z, List.getElem?_replicate]
    split <;> rfl

theorem trm_cut {l : List Int} {f N : Nat} (hN : N = max (tln l f) f) (ht : tln l f < f → tln l f = l.length) : trm l f = l.take N ++ List.replicate (N - min N l.length) 0 := by
  have hle := tln_le l f
  unfold trm
  by_cases h : tln l f < f
  · have e := ht h
    have eN : N = f := by omega
    rw [eN, e, List.take_of_length_le (Nat.le_refl _), List.take_of_length_le (by omega), show f - min f l.length = f - l.length by omega]
  · have eN : N = tln l f := by omega
    rw [eN, show f - tln l f = 0 by omega, show tln l f - min (tln l f) l.length = 0 by omega]

end Go.Proofs.YtcgeaidegppiaaaDoor

namespace Go.Proofs.YtcgeaidegppiaaaDoor
open Go.RowKit Go.Maps
set_option maxRecDepth 20000
set_option linter.unusedVariables false

theorem tab_cases (s : Nat) (h : s < 19) : (lst s = 1 ∧ frt s = 0 ∧ mst s = 1) ∨ (lst s = 3 ∧ frt s = 2 ∧ mst s = 6) ∨ (lst s = 3 ∧ frt s = 3 ∧ mst s = 10) ∨ (lst s = 11 ∧ frt s = 7 ∧ mst s = 138) := by
  unfold lst frt mst
  by_cases h1 : (s : Int) < 16
  · left; rw [if_pos h1, if_pos h1, if_pos h1]; exact ⟨rfl, rfl, rfl⟩
  · by_cases h2 : (s : Int) = 16
    · right; left; rw [h2]; exact ⟨rfl, rfl, rfl⟩
    · by_cases h3 : (s : Int) = 17
      · right; right; left; rw [h3]; exact ⟨rfl, rfl, rfl⟩
      · right; right; right; rw [show (s : Int) = 18 by omega]; exact ⟨rfl, rfl, rfl⟩

theorem all_snoc {l : List Int} {k : Nat} (hk : k < l.length) (h : ∀ x ∈ l.take k, 0 ≤ x ∧ x ≤ 15) (h1 : 0 ≤ l.getD k 0 ∧ l.getD k 0 ≤ 15) : ∀ x ∈ l.take (k + 1), 0 ≤ x ∧ x ≤ 15 := by
  intro x hx
  rw [List.take_succ_eq_append_getElem hk] at hx
  rcases List.mem_append.1 hx with e | e
  · exact h x e
  · rw [List.mem_singleton.1 e]
    have : l.getD k 0 = l[k] := by simp [hk]
    rw [← this]; exact h1

theorem wth_bad {l : List Int} {k : Nat} (hk : k < l.length) (h : ¬ (0 ≤ l.getD k 0 ∧ l.getD k 0 ≤ 15)) : wthb l = false := by
  rw [Bool.eq_false_iff]
  intro e
  exact h (wth_iff.1 e _ (by rw [show l.getD k 0 = l[k] by simp [hk]]; exact List.getElem_mem hk))

theorem meant_any (s : Int) (v : Value) (l : List Int) (w : World) (h : SI w v l) (h16 : s = 16 → 0 < l.length) :
    Calls Tryd.prog 67 #[.int .i64 s, v] w fun e w' => e = .returned (.int .i64 (mnt s l)) ∧ w' = w := by
  have HS := hide h
  obtain ⟨ao, cap, rfl, hlc, hcm⟩ := h.open
  clear h
  by_cases c1 : s < 16
  · have HM : Hid (mnt s l = s) := by show _ = _; unfold mnt; rw [if_pos c1]
    clear h16
    go_enter Tryd.func67, Tryd.ntmps67
    go_wp2
    go_ret
    rw [HM.out]
    exact ⟨rfl, rfl⟩
  · by_cases c2 : s = 16
    · subst c2
      have hl := h16 rfl
      obtain ⟨b, o, rfl, hc⟩ := HS.out.get (Below.refl _ _) (k := l.length - 1) (by omega)
      have HM : Hid (mnt 16 l = l.getD (l.length - 1) 0) := rfl
      obtain ⟨y, HY⟩ : ∃ y, Hid (y = l.getD (l.length - 1) 0) := ⟨_, rfl⟩
      rw [← HY.out] at hc HM
      obtain ⟨n, hn⟩ : ∃ n, l.length = n + 1 := ⟨l.length - 1, by omega⟩
      rw [hn] at hc hlc ⊢
      rw [Nat.add_sub_cancel] at hc
      clear HS hl hn h16 c1
      go_enter Tryd.func67, Tryd.ntmps67
      go_wp2
      go_ret
      rw [HM.out]
      exact ⟨rfl, rfl⟩
    · have HM : Hid (mnt s l = 0) := by show _ = _; unfold mnt; rw [if_neg c1, if_neg c2]
      have c3 : (s == 16) = false := by simpa using c2
      clear h16
      go_enter Tryd.func67, Tryd.ntmps67
      go_wp2
      go_ret
      rw [HM.out]
      exact ⟨rfl, rfl⟩
end Go.Proofs.YtcgeaidegppiaaaDoor

