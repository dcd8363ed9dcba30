import Derived.Test.YteiajeeincapoacCrash
import Derived.Maps.RangeWalk
import Derived.Deep.RegionLaw
namespace Go.Proofs.Yteiajeeincapoac
open Go.RowKit Go.Maps

def DInv (st : St) : Prop := ∀ i, i < st.now.length → st.pcs (i / 512) = [] → (resz st.dur st.now.length).getD i 0 = st.now.getD i 0

theorem Rep.setDur {w w1 : World} {K : Nat → Nat} {g : Nat} {st : St} {vn vd : Value} {m : Nat} {vs : Value} {D : DataW Unit} (h : RepV w K g st vn vd m vs D) {v' : Value} {l : List Int} (hob : OB w1 0 v' l) (hgr : w.grownBy w1 vd.ownBlock) (hloc : v'.ownBlock = vd.ownBlock ∨ v'.ownBlock = some w.heap.size) :
    ∃ K1, RepV (w1.setCell ⟨g, 2, none⟩ v') K1 g { st with dur := l } vn v' m vs D ∧ Fr K K1 w (w1.setCell ⟨g, 2, none⟩ v') := by
  have hne : some g ≠ vd.ownBlock := fun e => by have := h.kd g e.symm; rw [h.kg] at this; omega
  have hd1 : DC w1 g st.cap vn vd m vs st.calls st.dead st.fused st.left := (hgr.block g h.dc.lt hne).trans h.dc
  have hd2 := hd1.set.2.1 v'
  have hsz := hgr.size
  have old : ∀ k, v'.ownBlock = some k → k < w.heap.size → K k = 3 := fun k hk hl => by
    rcases hloc with e | e
    · exact h.kd k (by rw [← e]; exact hk)
    · rw [e] at hk; simp at hk; omega
  have u : Upd w (w1.setCell ⟨g, 2, none⟩ v') K (fun k => if v'.ownBlock = some k then 3 else K k) (fun r => r = 1 ∨ r = 3) := by
    refine ⟨by rw [size_setCell]; exact hsz, fun k hk => ?_, fun k k0 hS => ?_⟩
    · by_cases e : v'.ownBlock = some k
      · simp [e, old k e hk]
      · simp [e]
    · rw [setCell_others _ _ _ _ k (fun e => hS (by rw [e, h.kg]; omega))]
      exact hgr.block k (h.sup k k0) (fun e => hS (by rw [h.kd k e.symm]; omega))
  have hgv : ∀ k, v'.ownBlock = some k → k ≠ g := fun k hk e => by
    have hl := h.dc.lt
    have := old k hk (by omega)
    rw [e, h.kg] at this
    omega
  refine ⟨_, { dc := hd2, kg := ?_, hn := h.now' u (by omega), kn := h.role u (by omega) h.kn, hd := hob.move fun k hk => setCell_others _ _ _ _ k (hgv k hk), kd := fun k hk => by simp [hk], hm := h.map' u (by omega), km := ?_, hs := h.sizes' u (by omega), ks := h.role u (by omega) h.ks, rows := fun s => h.row' u (by omega) s (by omega), keys := h.keys, sup := ?_ }, ⟨hgr.os, hgr.tape, hgr.output, by rw [size_setCell]; exact hsz, fun k hk k0 => ?_, u.role⟩⟩
  · rw [u.role g h.dc.lt]; exact h.kg
  · rw [u.role m (h.sup m (by rw [h.km]; omega))]; exact h.km
  · intro k hk
    rw [size_setCell]
    by_cases e : v'.ownBlock = some k
    · exact (hob.lt k e).2
    · simp only [e, if_false] at hk
      have := h.sup k hk
      omega
  · rw [setCell_others _ _ _ _ k (fun e => by rw [e, h.kg] at k0; omega)]
    exact hgr.block k hk (fun e => by have := h.kd k e.symm; omega)

theorem Rep.settled {w2 W : World} {K : Nat → Nat} {g : Nat} {st : St} {vn vd : Value} {m : Nat} {vs : Value} {D : DataW Unit} (h : RepV w2 K g st vn vd m vs D) {m' : Nat} {l : List Int}
    (hdc : DC W g st.cap vn vd m' (.slice none 0 0) st.calls st.dead st.fused st.left) (hm : W.heap[m']? = some (.map #[] 0)) (hm2 : w2.heap.size ≤ m') (hsz : w2.heap.size ≤ W.heap.size) (hob : OB W 0 vd l)
    (hb : ∀ k, k < w2.heap.size → k ≠ g → some k ≠ vd.ownBlock → W.heap[k]? = w2.heap[k]?) (h1 : W.os = w2.os) (h2 : W.tape = w2.tape) (h3 : W.output = w2.output) :
    ∃ K', Rep W K' g { st with dur := l, pcs := fun _ => [], sizes := [], ents := 0 } ∧ Fr K K' w2 W := by
  have hml : m' < W.heap.size := (Array.getElem?_eq_some_iff.1 hm).1
  have hmk : K m' = 0 := by
    by_cases e : K m' = 0
    · exact e
    · have := h.sup m' e; omega
  have u : Upd w2 W K (fun k => if k = m' then 4 else K k) (fun r => r = 1 ∨ r = 3) := by
    refine ⟨hsz, fun k hk => ?_, fun k k0 hS => ?_⟩
    · have : k ≠ m' := by omega
      simp [this]
    · exact hb k (h.sup k k0) (fun e => hS (by rw [e, h.kg]; omega)) (fun e => hS (by rw [h.kd k e.symm]; omega))
  refine ⟨_, ⟨vn, vd, m', .slice none 0 0, .map [], { dc := hdc, kg := ?_, hn := h.now' u (by omega), kn := h.role u (by omega) h.kn, hd := hob, kd := h.role u (by omega) h.kd, hm := ⟨0, Nat.zero_le _, ⟨#[], 0, hm, ⟨by simp, MapKept.stamped_empty 0, by simp⟩, Nat.le_refl _, rfl⟩⟩, km := by simp, hs := World.ownsRow_nil _ _ _ _, ks := fun k hk => by simp [Value.ownBlock] at hk, rows := fun s => ⟨.slice none 0 0, rfl, fun k hk => by simp [Value.ownBlock] at hk, [], trivial, World.ownsRow_nil _ _ _ _⟩, keys := fun kl hkl => by simp [Maps.has] at hkl, sup := ?_ }⟩, ⟨h1, h2, h3, hsz, fun k hk k0 => ?_, u.role⟩⟩
  · rw [u.role g h.dc.lt]; exact h.kg
  · intro k hk
    by_cases e : k = m'
    · omega
    · simp only [e, if_false] at hk
      have := h.sup k hk
      omega
  · exact hb k hk (fun e => by rw [e, h.kg] at k0; omega) (fun e => by have := h.kd k e.symm; omega)

def key (i : Nat) : Lit := .int .i64 ((i / 512 : Nat) : Int)

def Rel (size : Nat) (now dur : List Int) (D : DataW Unit) (left : Lit → Bool) (cur : List Int) : Prop :=
  cur.length = size ∧ ∀ i, i < size → cur.getD i 0 = now.getD i 0 ∨ (cur.getD i 0 = dur.getD i 0 ∧ (left (key i) = true ∨ Maps.has D (key i) = false))

theorem has_false {w : World} {K : Nat → Nat} {g : Nat} {st : St} {vn vd : Value} {m : Nat} {vs : Value} {D : DataW Unit} (h : RepV w K g st vn vd m vs D) (s : Nat) (hk : Maps.has D (.int .i64 (s : Int)) = false) : st.pcs s = [] := by
  obtain ⟨v, hv, _, cs, _, hown⟩ := h.rows s
  have hat : D.atKey (.int .i64 (s : Int)) .nil = .nil := by
    obtain ⟨_, _, hm⟩ := h.hm
    obtain ⟨es, rfl⟩ := hm.isMap
    unfold Maps.has at hk
    have : es.find? (fun p => p.1.sameKey (.int .i64 (s : Int))) = none := by
      rw [List.find?_eq_none]
      intro x hx
      have := List.any_eq_false.1 hk x hx
      exact this
    simp only [DataW.atKey, this]
  rw [hat] at hv
  have : v = .slice none 0 0 := tokR_inj hv rfl
  subst this
  rcases hown.2 with ⟨_, e⟩ | ⟨g, c, cur, e, _⟩
  · exact List.eq_nil_of_length_eq_zero e
  · simp at e

theorem Rel.finish {size : Nat} {now dur cur : List Int} {D : DataW Unit} {left : Lit → Bool} (h : Rel size now dur D left cur) (hn : now.length = size) (hl : ∀ kl, left kl = false) (hi : ∀ i, i < size → Maps.has D (key i) = false → dur.getD i 0 = now.getD i 0) : cur = now := by
  apply List.ext_getElem (by rw [h.1, hn])
  intro i h1 h2
  have e1 : cur.getD i 0 = cur[i] := by simp [h1]
  have e2 : now.getD i 0 = now[i] := by simp [h2]
  rw [← e1, ← e2]
  rcases h.2 i (by omega) with e | ⟨e, e3 | e3⟩
  · exact e
  · rw [hl] at e3; cases e3
  · rw [e, hi i (by omega) e3]

theorem getD_splice (l cs : List Int) (off i : Nat) (h : off + cs.length ≤ l.length) (hi : i < l.length) : (splice l off cs).getD i 0 = if off ≤ i ∧ i < off + cs.length then cs.getD (i - off) 0 else l.getD i 0 := by
  unfold splice
  by_cases h1 : i < off
  · rw [if_neg (by omega)]
    simp only [List.getD]
    rw [List.getElem?_append_left (by simp; omega), List.getElem?_take, if_pos h1]
  · by_cases h2 : i < off + cs.length
    · rw [if_pos ⟨by omega, h2⟩]
      simp only [List.getD]
      rw [List.getElem?_append_right (by simp; omega), List.getElem?_append_left (by simp; omega)]
      congr 2
      simp
      omega
    · rw [if_neg (by omega)]
      simp only [List.getD]
      rw [List.getElem?_append_right (by simp; omega), List.getElem?_append_right (by simp; omega), List.getElem?_drop]
      congr 2
      simp
      omega

theorem Rel.step {size : Nat} {now dur cur : List Int} {D : DataW Unit} {left : Lit → Bool} (h : Rel size now dur D left cur) (hn : now.length = size) (s : Nat) :
    Rel size now dur D (fun z => left z && !z.sameKey (.int .i64 (s : Int))) (splice cur (min (s * 512) size) ((now.drop (min (s * 512) size)).take (min (min (s * 512) size + 512) size - min (s * 512) size))) := by
  have hlen : ((now.drop (min (s * 512) size)).take (min (min (s * 512) size + 512) size - min (s * 512) size)).length = min (min (s * 512) size + 512) size - min (s * 512) size := by
    simp; omega
  refine ⟨by rw [length_splice _ _ _ (by rw [hlen, h.1]; omega), h.1], fun i hi => ?_⟩
  rw [getD_splice _ _ _ _ (by rw [hlen, h.1]; omega) (by rw [h.1]; exact hi), hlen]
  by_cases hin : min (s * 512) size ≤ i ∧ i < min (s * 512) size + (min (min (s * 512) size + 512) size - min (s * 512) size)
  · rw [if_pos hin]
    left
    simp only [List.getD]
    rw [List.getElem?_take, if_pos (by omega), List.getElem?_drop]
    congr 2
    omega
  · rw [if_neg hin]
    rcases h.2 i hi with e | ⟨e, e2 | e2⟩
    · exact .inl e
    · refine .inr ⟨e, .inl ?_⟩
      have hne : key i ≠ .int .i64 (s : Int) := fun e3 => by
        unfold key at e3
        simp only [Lit.int.injEq, true_and] at e3
        omega
      simp [e2, Maps.sameKey_ne hne]
    · exact .inr ⟨e, .inr e2⟩
end Go.Proofs.Yteiajeeincapoac
