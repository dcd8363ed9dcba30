import Derived.Test.YtncniahpglgkmaaG02Dsp
import Derived.Test.YtncniahpglgkmaaRows
import Derived.WalkKit
import Derived.ProofKit
import Derived.OpenShut
import Derived.ShutString
import Derived.ChangeOld
import Derived.Below
import Derived.WalkLawsBesides
import Derived.WalkSpells
import Derived.Deep.QuietTactic
import Derived.BigQuiet
import Derived.Laws.CopyOwn
import Derived.SizedLaws
import Derived.Maps.Own
import Derived.Laws.BytesArg
import Derived.Laws.BitsLemmas
import Derived.Maps.AppendAt
import Derived.Deep.AppendSrc
import Derived.Deep.AppendLies
import Derived.Deep.RegionLaw
namespace Go.Proofs.Ytncniahpglgkmaa

/-! The program's joining: each node of the row bears a number; for each number the holder's. -/

abbrev Znd := Nod × Nat

def zro (Z : List Znd) : List Nod := Z.map (·.1)
def zlg (Z : List Znd) : Nat := lgt (zro Z)
def zfi (Z : List Znd) : Znd := Z.getD (zlg Z) (nod0, 0)
def zwo (Z : List Znd) : List Znd := Z.eraseIdx (zlg Z)
def zst (Z : List Znd) (j : Nat) : List Znd := zwo (zwo Z) ++ [(hjn (zro Z), j)]

def upd (H : Nat → Nat) (a b j : Nat) : Nat → Nat := fun v => if v = b then j else if v = a then j else H v

def hids : Nat → List Znd → Nat → (Nat → Nat) → (Nat → Nat)
  | 0, _, _, H => H
  | m + 1, Z, j, H => hids m (zst Z j) (j + 1) (upd H (zfi Z).2 (zfi (zwo Z)).2 j)

theorem zro_wo (Z : List Znd) : zro (zwo Z) = wo (zro Z) := (erase_map (fun z : Znd => z.1) Z _).symm

theorem zro_st (Z : List Znd) (j : Nat) : zro (zst Z j) = hst (zro Z) := by
  unfold zst hst
  rw [← zro_wo, ← zro_wo]
  simp [zro]

theorem zro_len (Z : List Znd) : (zro Z).length = Z.length := by simp [zro]

theorem zlg_lt {Z : List Znd} (h : 0 < Z.length) : zlg Z < Z.length := by
  have := lgt_lt (row := zro Z) (by rw [zro_len]; exact h)
  rwa [zro_len] at this

theorem zfi_fst {Z : List Znd} : (zfi Z).1 = fir (zro Z) := by
  unfold zfi fir zlg zro
  rw [List.getD_eq_getElem?_getD, List.getD_eq_getElem?_getD, List.getElem?_map]
  cases Z[lgt (Z.map (·.1))]? with
  | none => rfl
  | some x => rfl

theorem zperm {Z : List Znd} (h : 0 < Z.length) : Z.Perm (zfi Z :: zwo Z) := by
  have hi := zlg_lt h
  have e : zfi Z = Z[zlg Z] := by unfold zfi; rw [List.getD_eq_getElem?_getD, List.getElem?_eq_getElem hi]; rfl
  rw [e]
  unfold zwo
  rw [List.eraseIdx_eq_take_drop_succ]
  have : Z = Z.take (zlg Z) ++ Z[zlg Z] :: Z.drop (zlg Z + 1) := by
    rw [← List.drop_eq_getElem_cons hi, List.take_append_drop]
  conv => lhs; rw [this]
  exact List.perm_middle

theorem zwo_len {Z : List Znd} (h : 0 < Z.length) : (zwo Z).length = Z.length - 1 := by
  unfold zwo
  rw [List.length_eraseIdx, if_pos (zlg_lt h)]

theorem zst_len {Z : List Znd} (h : 2 ≤ Z.length) (j : Nat) : (zst Z j).length = Z.length - 1 := by
  unfold zst
  rw [List.length_append, zwo_len (by rw [zwo_len (by omega)]; omega), zwo_len (by omega)]
  simp
  omega

theorem zperm2 {Z : List Znd} (h : 2 ≤ Z.length) : Z.Perm (zfi Z :: zfi (zwo Z) :: zwo (zwo Z)) :=
  (zperm (by omega)).trans ((List.perm_cons _).2 (zperm (by rw [zwo_len (by omega)]; omega)))

/-- The numbers are apart and below the next one. -/
structure Znum (Z : List Znd) (j : Nat) : Prop where
  nd : (Z.map (·.2)).Nodup
  lt : ∀ z ∈ Z, z.2 < j

theorem Znum.st {Z : List Znd} {j : Nat} (h : Znum Z j) (h2 : 2 ≤ Z.length) : Znum (zst Z j) (j + 1) := by
  have hp := zperm2 h2
  have hn : ((zfi Z :: zfi (zwo Z) :: zwo (zwo Z)).map (·.2)).Nodup := (hp.map _).nodup_iff.1 h.nd
  simp only [List.map_cons, List.nodup_cons] at hn
  refine ⟨?_, fun z hz => ?_⟩
  · unfold zst
    rw [List.map_append, List.nodup_append]
    refine ⟨hn.2.2, by simp, ?_⟩
    intro a ha b hb
    simp at hb
    subst hb
    obtain ⟨z, hz, rfl⟩ := List.mem_map.1 ha
    have := h.lt z (hp.symm.subset (by simp [hz]))
    omega
  · unfold zst at hz
    rcases List.mem_append.1 hz with hz | hz
    · have := h.lt z (hp.symm.subset (by simp [hz]))
      omega
    · simp at hz
      rw [hz]
      exact Nat.lt_succ_self _

theorem hids_far (m : Nat) (Z : List Znd) (j : Nat) (H : Nat → Nat) (hn : Znum Z j) (hl : Z.length = m + 1) (v : Nat) (hv : v < j) (hz : v ∉ Z.map (·.2)) : hids m Z j H v = H v := by
  induction m generalizing Z j H with
  | zero => rfl
  | succ m ih =>
    have h2 : 2 ≤ Z.length := by omega
    have hp := zperm2 h2
    have h1 : v ≠ (zfi Z).2 := fun e => hz (by rw [e]; exact List.mem_map_of_mem (hp.symm.subset (by simp)))
    have h1' : v ≠ (zfi (zwo Z)).2 := fun e => hz (by rw [e]; exact List.mem_map_of_mem (hp.symm.subset (by simp)))
    simp only [hids]
    rw [ih (zst Z j) (j + 1) _ (hn.st h2) (by rw [zst_len h2]; omega) (by omega) ?_]
    · unfold upd; rw [if_neg h1', if_neg h1]
    · intro hm
      unfold zst at hm
      rw [List.map_append, List.mem_append] at hm
      rcases hm with hm | hm
      · obtain ⟨z, hz', e⟩ := List.mem_map.1 hm
        exact hz (by rw [← e]; exact List.mem_map_of_mem (hp.symm.subset (by simp [hz'])))
      · simp at hm; omega

/-- Each number's holder is above it, and no holder is above the last one. -/
theorem hids_up (m : Nat) (Z : List Znd) (j : Nat) (H : Nat → Nat) (hn : Znum Z j) (hl : Z.length = m + 1) (v : Nat) (hv : v + 1 < j + m) (hz : v ∈ Z.map (·.2) ∨ j ≤ v) (hm : 1 ≤ m) : v < hids m Z j H v ∧ hids m Z j H v < j + m := by
  induction m generalizing Z j H with
  | zero => omega
  | succ m ih =>
    have h2 : 2 ≤ Z.length := by omega
    have hp := zperm2 h2
    have hn' := hn.st h2
    have hl' : (zst Z j).length = m + 1 := by rw [zst_len h2]; omega
    have hnd : ((zfi Z :: zfi (zwo Z) :: zwo (zwo Z)).map (·.2)).Nodup := (hp.map _).nodup_iff.1 hn.nd
    simp only [List.map_cons, List.nodup_cons, List.mem_cons, not_or] at hnd
    simp only [hids]
    have hit : ∀ v, (v = (zfi Z).2 ∨ v = (zfi (zwo Z)).2) → hids m (zst Z j) (j + 1) (upd H (zfi Z).2 (zfi (zwo Z)).2 j) v = j ∧ v < j := by
      intro v hv
      have hvj : v < j := by
        rcases hv with e | e
        · rw [e]; exact hn.lt _ (hp.symm.subset (by simp))
        · rw [e]; exact hn.lt _ (hp.symm.subset (by simp))
      refine ⟨?_, hvj⟩
      rw [hids_far m (zst Z j) (j + 1) _ hn' hl' v (by omega) ?_]
      · unfold upd
        rcases hv with e | e
        · by_cases c : v = (zfi (zwo Z)).2
          · rw [if_pos c]
          · rw [if_neg c, if_pos e]
        · rw [if_pos e]
      · intro hmm
        unfold zst at hmm
        rw [List.map_append, List.mem_append] at hmm
        rcases hmm with hmm | hmm
        · rcases hv with e | e
          · rw [e] at hmm; exact hnd.1.2 hmm
          · rw [e] at hmm; exact hnd.2.1 hmm
        · simp at hmm; omega
    by_cases c : v = (zfi Z).2 ∨ v = (zfi (zwo Z)).2
    · obtain ⟨e, hlt⟩ := hit v c
      rw [e]
      exact ⟨hlt, by omega⟩
    · have hmem : v ∈ (zst Z j).map (·.2) ∨ j + 1 ≤ v := by
        rcases hz with hz | hz
        · left
          obtain ⟨z, hz', e⟩ := List.mem_map.1 hz
          rcases List.mem_cons.1 (hp.subset hz') with rfl | hz''
          · exact absurd (Or.inl e.symm) c
          · rcases List.mem_cons.1 hz'' with rfl | hz3
            · exact absurd (Or.inr e.symm) c
            · unfold zst
              rw [List.map_append, List.mem_append]
              exact .inl (by rw [← e]; exact List.mem_map_of_mem hz3)
        · by_cases e : v = j
          · left; unfold zst; rw [List.map_append, List.mem_append]; right; simp [e]
          · right; omega
      by_cases hm1 : 1 ≤ m
      · have := ih (zst Z j) (j + 1) (upd H (zfi Z).2 (zfi (zwo Z)).2 j) hn' hl' (by omega) hmem hm1
        exact ⟨this.1, by omega⟩
      · obtain rfl : m = 0 := by omega
        exfalso
        rcases hmem with hmem | hmem
        · have hw : (zwo (zwo Z)).length = 0 := by
            rw [zwo_len (by rw [zwo_len (by omega)]; omega), zwo_len (by omega)]; omega
          have hw' : zwo (zwo Z) = [] := List.eq_nil_of_length_eq_zero hw
          unfold zst at hmem
          rw [hw'] at hmem
          simp at hmem
          omega
        · omega

/-- Depths, from the last node down: what the joining counts. -/
theorem hids_deep (m : Nat) (Z : List Znd) (j : Nat) (H : Nat → Nat) (len : Nat → Nat) (D : Nat → Nat) (hn : Znum Z j) (hl : Z.length = m + 1) (hs : (syms (zro Z)).Nodup)
    (r : Nat) (hr : (m = 0 → ∃ x, Z = [(x, r)]) ∧ (1 ≤ m → r = j + m - 1)) (hD0 : D r = 0) (hD : ∀ v, (v ∈ Z.map (·.2) ∨ j ≤ v) → v < j + m → v ≠ r → D v = D (hids m Z j H v) + 1) :
    ∀ z ∈ Z, ∀ s ∈ z.1.2, hrun m (zro Z) len s = len s + D z.2 := by
  induction m generalizing Z j H len with
  | zero =>
    obtain ⟨x, rfl⟩ := hr.1 rfl
    intro z hz s hs'
    simp at hz
    subst hz
    simp [hrun, hD0]
  | succ m ih =>
    have h2 : 2 ≤ Z.length := by omega
    have hp := zperm2 h2
    have hn' := hn.st h2
    have hl' : (zst Z j).length = m + 1 := by rw [zst_len h2]; omega
    have hrj : r = j + m := by have := hr.2 (by omega); omega
    have hps : (syms (zro Z)).Perm (syms (zro (zfi Z :: zfi (zwo Z) :: zwo (zwo Z)))) := syms_perm (hp.map _)
    have hs2 : (syms (zro (zfi Z :: zfi (zwo Z) :: zwo (zwo Z)))).Nodup := hps.nodup_iff.1 hs
    have hjn2 : (hjn (zro Z)).2 = (zfi Z).1.2 ++ (zfi (zwo Z)).1.2 := by
      unfold hjn
      rw [zfi_fst, zfi_fst, zro_wo]
    have hs3 : (syms (zro (zst Z j))).Nodup := by
      have e : (syms (zro (zst Z j))).Perm (syms (zro (zfi Z :: zfi (zwo Z) :: zwo (zwo Z)))) := by
        unfold zst
        have e1 : syms (zro (zwo (zwo Z) ++ [(hjn (zro Z), j)])) = syms (zro (zwo (zwo Z))) ++ ((zfi Z).1.2 ++ (zfi (zwo Z)).1.2) := by
          rw [← hjn2]
          simp [syms, zro]
        have e2 : syms (zro (zfi Z :: zfi (zwo Z) :: zwo (zwo Z))) = ((zfi Z).1.2 ++ (zfi (zwo Z)).1.2) ++ syms (zro (zwo (zwo Z))) := by
          simp [syms, zro]
        rw [e1, e2]
        exact List.perm_append_comm
      exact e.nodup_iff.2 hs2
    have IH := ih (zst Z j) (j + 1) (upd H (zfi Z).2 (zfi (zwo Z)).2 j) (bmp len (hjn (zro Z)).2) hn' hl' hs3 (by
      refine ⟨fun e => ?_, fun e => by omega⟩
      subst e
      have hw : (zwo (zwo Z)).length = 0 := by
        rw [zwo_len (by rw [zwo_len (by omega)]; omega), zwo_len (by omega)]; omega
      have hw' : zwo (zwo Z) = [] := List.eq_nil_of_length_eq_zero hw
      refine ⟨hjn (zro Z), ?_⟩
      unfold zst
      rw [hw', hrj]
      rfl) (by
      intro v hv hlt hne
      refine hD v ?_ (by omega) hne
      rcases hv with hv | hv
      · unfold zst at hv
        rw [List.map_append, List.mem_append] at hv
        rcases hv with hv | hv
        · left
          obtain ⟨z, hz', e⟩ := List.mem_map.1 hv
          rw [← e]
          exact List.mem_map_of_mem (hp.symm.subset (by simp [hz']))
        · right; simp at hv; omega
      · right; omega)
    rw [zro_st] at IH
    have hnd : ((zfi Z :: zfi (zwo Z) :: zwo (zwo Z)).map (·.2)).Nodup := (hp.map _).nodup_iff.1 hn.nd
    simp only [List.map_cons, List.nodup_cons, List.mem_cons, not_or] at hnd
    have two : ∀ z, (z = zfi Z ∨ z = zfi (zwo Z)) → ∀ s ∈ z.1.2, hrun (m + 1) (zro Z) len s = len s + D z.2 := by
      intro z hz s hs'
      have hsj : s ∈ (hjn (zro Z)).2 := by
        rw [hjn2]
        rcases hz with rfl | rfl
        · exact List.mem_append_left _ hs'
        · exact List.mem_append_right _ hs'
      have hzm : z ∈ Z := by
        rcases hz with rfl | rfl
        · exact hp.symm.subset (by simp)
        · exact hp.symm.subset (by simp)
      have hzj := hn.lt z hzm
      have := IH (hjn (zro Z), j) (by unfold zst; simp) s hsj
      simp only [hrun]
      rw [this, bmp_in hsj]
      have hv := hD z.2 (.inl (List.mem_map_of_mem hzm)) (by omega) (by omega)
      have hit : hids (m + 1) Z j H z.2 = j := by
        simp only [hids]
        rw [hids_far m (zst Z j) (j + 1) _ hn' hl' z.2 (by omega) ?_]
        · unfold upd
          rcases hz with rfl | rfl
          · by_cases c : (zfi Z).2 = (zfi (zwo Z)).2
            · rw [if_pos c]
            · rw [if_neg c, if_pos rfl]
          · rw [if_pos rfl]
        · intro hmm
          unfold zst at hmm
          rw [List.map_append, List.mem_append] at hmm
          rcases hmm with hmm | hmm
          · rcases hz with rfl | rfl
            · exact hnd.1.2 hmm
            · exact hnd.2.1 hmm
          · simp at hmm; omega
      rw [hit] at hv
      rw [hv]
      show _ + D j = _
      omega
    intro z hz s hs'
    rcases List.mem_cons.1 (hp.subset hz) with hz1 | hz1
    · exact two z (.inl hz1) s hs'
    · rcases List.mem_cons.1 hz1 with hz2 | hz2
      · exact two z (.inr hz2) s hs'
      · have := IH z (by unfold zst; simp [hz2]) s hs'
        simp only [hrun]
        rw [this]
        have hout : s ∉ (hjn (zro Z)).2 := by
          rw [hjn2]
          intro hmem
          have e2 : syms (zro (zfi Z :: zfi (zwo Z) :: zwo (zwo Z))) = ((zfi Z).1.2 ++ (zfi (zwo Z)).1.2) ++ syms (zro (zwo (zwo Z))) := by
            simp [syms, zro]
          rw [e2, List.nodup_append] at hs2
          exact hs2.2.2 s hmem s (List.mem_flatMap.2 ⟨z.1, List.mem_map_of_mem hz2, hs'⟩) rfl
        rw [bmp_out hout]
end Go.Proofs.Ytncniahpglgkmaa

namespace Go.Proofs.Ytncniahpglgkmaa.H4
open Go.RowKit

def SI (w : World) (v : Value) (l : List Int) : Prop :=
  ∃ ao cap, v = .slice ao l.length cap ∧ l.length ≤ cap ∧ cap ≤ maxLen ∧ (ao = none → cap = 0) ∧ ∀ x, ao = some x → ∀ i, i < l.length → w.cell? (x.add i) = some (.int .i64 (l.getD i 0))

def OI (w : World) (base : Nat) (v : Value) (l : List Int) : Prop := w.ownsRow base 3 1 v l.length (l.map (Value.int .i64))

theorem hide {p : Prop} (h : p) : Hid p := h
theorem unhide {p : Prop} (h : Hid p) : p := h

theorem add_block (x : Addr) (i : Nat) : (x.add i).block = x.block := by unfold Addr.add; split <;> rfl

theorem SI.move {w w' : World} {v : Value} {l : List Int} (h : SI w v l) (hc : ∀ a u, w.cell? a = some u → v.ownBlock = some a.block → w'.cell? a = some u) : SI w' v l := by
  obtain ⟨ao, cap, rfl, h1, h2, h3, h4⟩ := h
  refine ⟨ao, cap, rfl, h1, h2, h3, fun x hx i hi => hc _ _ (h4 x hx i hi) ?_⟩
  subst hx; simp [Value.ownBlock, add_block]

theorem SI.below {w w' : World} {v : Value} {l : List Int} (h : SI w v l) (hb : Below w.heap.size w w') : SI w' v l :=
  h.move fun a _ ha _ => (hb.cell (World.block_lt_of_cell? w a ha)).trans ha

theorem OI.lt {w : World} {base : Nat} {v : Value} {l : List Int} (h : OI w base v l) : ∀ k, v.ownBlock = some k → base ≤ k ∧ k < w.heap.size := World.ownsRow.lt h

theorem OI.sb {w : World} {base : Nat} {v : Value} {l : List Int} (h : OI w base v l) : SI w v l := by
  have hc := @World.ownsRow.cells _ _ _ _ _ _ _ h
  rcases h.2 with ⟨rfl, h0⟩ | ⟨g, cap, cur, rfl, _, _, h3, h4, _, _⟩
  · obtain rfl : l = [] := List.eq_nil_of_length_eq_zero h0
    exact ⟨none, 0, rfl, Nat.le_refl _, Nat.zero_le _, fun _ => rfl, fun x hx => by cases hx⟩
  · refine ⟨some ⟨g, 0, none⟩, cap, rfl, h3, h4, (fun e => by cases e), fun x hx i hi => ?_⟩
    cases hx
    refine hc (g := g) rfl i _ ?_
    simp [hi]

theorem OI.shape {w : World} {base : Nat} {v : Value} {l : List Int} (h : OI w base v l) : ∃ a c, v = .slice a l.length c := by
  rcases h.2 with ⟨rfl, h0⟩ | ⟨g, cap, cur, rfl, _⟩
  · exact ⟨none, 0, by rw [h0]⟩
  · exact ⟨_, _, rfl⟩

theorem OI.move {w w' : World} {base : Nat} {v : Value} {l : List Int} (h : OI w base v l) (hb : ∀ k, v.ownBlock = some k → w'.heap[k]? = w.heap[k]?) : OI w' base v l := by
  refine ⟨h.1, ?_⟩
  rcases h.2 with h2 | ⟨g, cap, cur, rfl, h1, h2, r⟩
  · exact .inl h2
  · exact .inr ⟨g, cap, cur, rfl, h1, (hb g rfl).trans h2, r⟩

theorem OI.base {w : World} {base base' : Nat} {v : Value} {l : List Int} (h : OI w base v l) (hb : base' ≤ base) : OI w base' v l := by
  refine ⟨h.1, ?_⟩
  rcases h.2 with h2 | ⟨g, cap, cur, rfl, h1, r⟩
  · exact .inl h2
  · exact .inr ⟨g, cap, cur, rfl, Nat.le_trans hb h1, r⟩

theorem OI.below {w w' : World} {base B : Nat} {v : Value} {l : List Int} (h : OI w base v l) (hb : Below B w w') (hB : w.heap.size ≤ B) : OI w' base v l :=
  h.move fun k hk => hb.block k (Nat.lt_of_lt_of_le (h.lt k hk).2 hB)

theorem size_alloc' (w : World) (o : Obj) : (w.alloc o).heap.size = w.heap.size + 1 := by simp

theorem heap_two (w : World) (o p : Obj) : ((w.alloc o).alloc p).heap[w.heap.size + 1]? = some p ∧ ((w.alloc o).alloc p).heap[w.heap.size]? = some o := by
  have e := heap_alloc_new (w.alloc o) p
  rw [size_alloc'] at e
  exact ⟨e, (Below.heap_alloc (w.alloc o) p w.heap.size (by rw [size_alloc']; omega)).trans (heap_alloc_new w o)⟩

theorem infoInt : (Try.prog.info? 3).map (fun i => (i.zero, i.size, i.bytes)) = some (some (.int .i64 0), 1, 8) := by kernel_rfl

theorem madeInts (n : Nat) : (madeCells #[Value.int .i64 0] n).toList = List.replicate n (Value.int .i64 0) := by
  have e : ∀ k : Nat, [Value.int IntKind.i64 0][k % 1]?.getD default = Value.int .i64 0 := fun k => by simp [Nat.mod_one]
  simp only [madeCells]
  simp [e, List.map_const']

theorem ownsRow_full {w : World} {base g n : Nat} {xs : List Value} (h : w.ownsRow base 3 1 (.slice (some ⟨g, 0, none⟩) n n) n xs) : w.heap[g]? = some (.cells xs.toArray 3 (0, 0)) ∧ base ≤ g := by
  obtain ⟨hl, h | ⟨g', cap, cur, he, hb, hg, _, _, hs, ht⟩⟩ := h
  · exact absurd h.1 (by simp)
  · simp only [Value.slice.injEq, Option.some.injEq, Addr.mk.injEq] at he
    obtain ⟨⟨rfl, -, -⟩, -, rfl⟩ := he
    have : cur = xs.toArray := by
      apply Array.ext'
      rw [← ht, List.take_of_length_le (by simp [hs])]
    exact ⟨by rw [hg, this], hb⟩

theorem OI.of_full {w : World} {base g : Nat} {l : List Int} (hg : w.heap[g]? = some (.cells (l.map (Value.int .i64)).toArray 3 (0, 0))) (hb : base ≤ g) (hm : l.length ≤ maxLen) : OI w base (.slice (some ⟨g, 0, none⟩) l.length l.length) l :=
  ⟨by simp, .inr ⟨g, l.length, _, rfl, hb, hg, Nat.le_refl _, hm, by simp, List.take_of_length_le (by simp)⟩⟩

theorem splice_all {α : Type} (L cs : List α) (h : cs.length = L.length) : splice L 0 cs = cs := by
  simp [splice, h]

theorem addr_lit {w : World} {x : Addr} {u : Value} (h : w.cell? (x.add 0) = some u) : ∃ b o, x = ⟨b, o, none⟩ := by
  have hs := World.cell?_spot h
  obtain ⟨b, o, s⟩ := x
  refine ⟨b, o, ?_⟩
  unfold Addr.add at hs
  cases s with
  | none => rfl
  | some q => simp at hs

theorem take_step {l1 l2 : List Int} {k : Nat} (h1 : k < l1.length) (hl : l1.length = l2.length) (ht : l1.take k = l2.take k) :
    (l1.getD k 0 = l2.getD k 0 → l1.take (k + 1) = l2.take (k + 1)) ∧ (l1.getD k 0 ≠ l2.getD k 0 → l1 ≠ l2) := by
  refine ⟨fun h => ?_, fun h e => h (by rw [e])⟩
  have e1 : l1.getD k 0 = l1[k] := by simp [h1]
  have e2 : l2.getD k 0 = l2[k]'(by omega) := by simp [show k < l2.length by omega]
  rw [e1, e2] at h
  rw [List.take_succ_eq_append_getElem h1, List.take_succ_eq_append_getElem (by omega), ht, h]

theorem size_setCell (w : World) (a : Addr) (u : Value) : (w.setCell a u).heap.size = w.heap.size := by simp [World.setCell]

theorem setCell_others (w : World) (g o : Nat) (u : Value) : ∀ k, k ≠ g → (w.setCell ⟨g, o, none⟩ u).heap[k]? = w.heap[k]? := fun k hk => Below.heap_setCell w _ u k hk

end Go.Proofs.Ytncniahpglgkmaa.H4

