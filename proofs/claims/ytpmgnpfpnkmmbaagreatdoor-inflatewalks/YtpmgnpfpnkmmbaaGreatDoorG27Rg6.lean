import Derived.Test.YtpmgnpfpnkmmbaaGreatDoorG21Krg
import Derived.Test.YtpmgnpfpnkmmbaaGreatDoorG26Lfw
import Derived.Test.YtpmgnpfpnkmmbaaGreatDoorG20Usd
import Derived.Test.YtpmgnpfpnkmmbaaGreatDoorG18QHx
import Derived.Test.YtpmgnpfpnkmmbaaGreatDoorG19QHops
import Derived.Shelf.Abstract
import Derived.Shelf.RegionOpen
import Derived.OwnWalkIn
import Derived.TacticsInMore
import Derived.LoopNIn
import Derived.LoopIn
namespace Go.Proofs.YtpmgnpfpnkmmbaaGreatDoor
open Go.RowKit Go.Maps
set_option maxRecDepth 20000
set_option linter.unusedVariables false

/-- The used symbols, by frequency, then by symbol. -/
def srl (l : List Int) : List Nat := (us6 l).mergeSort fun s t => decide (l.getD s 0 < l.getD t 0 ∨ l.getD s 0 = l.getD t 0 ∧ s ≤ t)

theorem srl_srt (l : List Int) : Srt l (us6 l) (srl l) := by
  have hp := List.mergeSort_perm (us6 l) fun s t => decide (l.getD s 0 < l.getD t 0 ∨ l.getD s 0 = l.getD t 0 ∧ s ≤ t)
  refine ⟨hp, ?_⟩
  have h := List.pairwise_mergeSort (le := fun s t => decide (l.getD s 0 < l.getD t 0 ∨ l.getD s 0 = l.getD t 0 ∧ s ≤ t)) (fun a b c h1 h2 => by simp only [decide_eq_true_eq] at *; omega) (fun a b => by simp only [Bool.or_eq_true, decide_eq_true_eq]; omega) (us6 l)
  have hn : (srl l).Nodup := hp.nodup_iff.2 (us_nodup l)
  refine (h.and hn).imp fun {a b} hab => ?_
  obtain ⟨h1, h2⟩ := hab
  simp only [decide_eq_true_eq] at h1
  unfold Lf
  omega

theorem srt_eq {l : List Int} {S T T' : List Nat} (h : Srt l S T) (h' : Srt l S T') : T = T' :=
  (h.perm.trans h'.perm.symm).eq_of_pairwise (le := Lf l) (fun a b _ _ h1 h2 => by unfold Lf at h1 h2; omega) h.rise h'.rise

theorem srl_len (l : List Int) : (srl l).length = (us6 l).length := (srl_srt l).perm.length_eq
theorem srl_mem {l : List Int} {s : Nat} : s ∈ srl l ↔ s ∈ us6 l := (srl_srt l).perm.mem_iff
theorem srl_nodup (l : List Int) : (srl l).Nodup := (srl_srt l).perm.nodup_iff.2 (us_nodup l)

/-- The weights of the leaves. -/
def lws (l : List Int) : List Nat := (srl l).map (fq l)

theorem lws_len (l : List Int) : (lws l).length = (us6 l).length := by simp [lws, srl_len]

theorem lws_rise {l : List Int} (h : ∀ i, 0 ≤ l.getD i 0) : Rise (lws l) := by
  unfold lws Rise
  rw [List.pairwise_map]
  refine (srl_srt l).rise.imp fun {a b} hab => ?_
  unfold Lf at hab
  have := h a
  have := h b
  unfold fq
  omega

/-- Limited's length of a symbol. -/
def lm (l : List Int) (L s : Nat) : Nat := if (us6 l).length = 1 then (if s ∈ us6 l then 1 else 0) else if s ∈ us6 l then ct (sel (lws l) L (2 * (us6 l).length - 2)) ((srl l).idxOf s) else 0

def lmt (l : List Int) (L : Nat) : List Int := (List.range l.length).map fun s => (lm l L s : Int)

def lmE (l : List Int) (lim : Int) : Int := if 288 < l.length ∨ lim < 1 ∨ 15 < lim then 1 else if bnb l 4294967296 = false then 61 else if 2 ^ lim.toNat < (us6 l).length then 60 else 0
def lmL (l : List Int) (lim : Int) : List Int := if lmE l lim = 0 then lmt l lim.toNat else []

theorem lmt_len (l : List Int) (L : Nat) : (lmt l L).length = l.length := by simp [lmt]

theorem lm_out {l : List Int} {L s : Nat} (h : s ∉ us6 l) : lm l L s = 0 := by
  unfold lm
  rw [if_neg h, if_neg h]
  split <;> rfl

theorem lmt_spr (l : List Int) (L : Nat) : spr l.length (srl l) (fun s => (lm l L s : Int)) = lmt l L := by
  unfold spr lmt
  refine List.map_congr_left fun s _ => ?_
  by_cases h : s ∈ srl l
  · rw [if_pos h]
  · rw [if_neg h, lm_out (fun q => h (srl_mem.2 q))]; rfl

theorem lmt_few {l : List Int} {L : Nat} (h : (us6 l).length < 2) : spr l.length (us6 l) (fun _ => 1) = lmt l L := by
  unfold spr lmt
  refine List.map_congr_left fun s _ => ?_
  by_cases hs : s ∈ us6 l
  · have h1 : (us6 l).length = 1 := by have := List.length_pos_of_mem hs; omega
    rw [if_pos hs]
    unfold lm
    rw [if_pos h1, if_pos hs]
    rfl
  · rw [if_neg hs, lm_out hs]; rfl

theorem lm_at {l : List Int} {L i : Nat} (h2 : 2 ≤ (us6 l).length) (hi : i < (srl l).length) : lm l L ((srl l)[i]) = ct (sel (lws l) L (2 * (us6 l).length - 2)) i := by
  unfold lm
  rw [if_neg (by omega), if_pos (srl_mem.1 (List.getElem_mem hi)), (srl_nodup l).idxOf_getElem i hi]

theorem lm_pack {l : List Int} {L : Nat} (h2 : 2 ≤ (us6 l).length) : hls (us6 l).length (ct (sel (lws l) L (2 * (us6 l).length - 2))) = (srl l).map fun s => (lm l L s : Int) := by
  apply List.ext_getElem
  · simp [hls, srl_len]
  · intro i h1 h3
    rw [List.length_map] at h3
    simp only [hls, List.getElem_map, List.getElem_range]
    rw [lm_at h2 h3]
end Go.Proofs.YtpmgnpfpnkmmbaaGreatDoor

namespace Go.Proofs.YtpmgnpfpnkmmbaaGreatDoor
open Go.RowKit Go.Maps
set_option maxRecDepth 20000
set_option linter.unusedVariables false

/-- Leaves and packages merged, each with its mark. -/
def cmr : List Nat → List Nat → List (Nat × Bool)
  | [], p => p.map (·, false)
  | a :: w, [] => (a :: w).map (·, true)
  | a :: w, b :: p => if a ≤ b then (a, true) :: cmr w (b :: p) else (b, false) :: cmr (a :: w) p
termination_by w p => w.length + p.length

theorem cmr_nil (w : List Nat) : cmr w [] = w.map (·, true) := by cases w <;> simp [cmr]

theorem cmr_fst (w p : List Nat) : (cmr w p).map (·.1) = mrg w p := by
  induction w, p using cmr.induct with
  | case1 p => simp [cmr, mrg, Function.comp_def]
  | case2 a w => simp [cmr, mrg, Function.comp_def]
  | case3 a w b p h ih => simp only [cmr, mrg, if_pos h, List.map_cons, ih]
  | case4 a w b p h ih => simp only [cmr, mrg, if_neg h, List.map_cons, ih]

theorem cmr_len (w p : List Nat) : (cmr w p).length = w.length + p.length := by
  have := congrArg List.length (cmr_fst w p)
  rw [List.length_map, mrg_len] at this
  exact this

/-- Leaves among the first m. -/
def lvs (R : List (Nat × Bool)) (m : Nat) : Nat := ((R.take m).filter (·.2)).length

theorem cmr_cnt (w p : List Nat) (m : Nat) : lvs (cmr w p) m = cnt w p m := by
  induction w, p using cmr.induct generalizing m with
  | case1 p =>
    have e : ∀ (p : List Nat) (m : Nat), lvs (p.map (·, false)) m = 0 := fun p m => by
      unfold lvs
      rw [List.length_eq_zero_iff, List.filter_eq_nil_iff]
      intro x hx
      have := List.mem_of_mem_take hx
      obtain ⟨y, _, rfl⟩ := List.mem_map.1 this
      simp
    simp only [cmr, e]
    cases m <;> simp [cnt]
  | case2 a w =>
    have e : ∀ (w : List Nat) (m : Nat), lvs (w.map (·, true)) m = cnt w [] m := fun w => by
      induction w with
      | nil => intro m; cases m <;> simp [lvs, cnt]
      | cons a w ih =>
        intro m
        cases m with
        | zero => simp [lvs, cnt]
        | succ m =>
          have := ih m
          simp only [lvs, List.map_cons, List.take_succ_cons, cnt] at this ⊢
          rw [List.filter_cons_of_pos rfl, List.length_cons, this]
    simp only [cmr]
    exact e (a :: w) m
  | case3 a w b p h ih =>
    cases m with
    | zero => simp [lvs, cnt]
    | succ m =>
      have := ih m
      simp only [cmr, if_pos h, lvs, List.take_succ_cons, cnt] at this ⊢
      rw [List.filter_cons_of_pos rfl, List.length_cons, this]
  | case4 a w b p h ih =>
    cases m with
    | zero => simp [lvs, cnt]
    | succ m =>
      have := ih m
      simp only [cmr, if_neg h, lvs, List.take_succ_cons, cnt] at this ⊢
      rw [List.filter_cons_of_neg (by simp), this]

/-- Coins in memory. -/
def fc (R : List (Nat × Bool)) : List Value := R.flatMap fun p => [.int .i64 (p.1 : Int), .bool p.2]

theorem fc_len (R : List (Nat × Bool)) : (fc R).length = R.length * 2 := by
  induction R with
  | nil => rfl
  | cons a r ih => unfold fc at ih ⊢; rw [List.flatMap_cons, List.length_append, ih]; simp; omega

theorem fc_get {R : List (Nat × Bool)} {i : Nat} (h : i < R.length) : (fc R)[i * 2]? = some (.int .i64 ((R.getD i (0, false)).1 : Int)) ∧ (fc R)[i * 2 + 1]? = some (.bool (R.getD i (0, false)).2) := by
  induction R generalizing i with
  | nil => simp at h
  | cons a r ih =>
    cases i with
    | zero => exact ⟨rfl, rfl⟩
    | succ i =>
      have := ih (i := i) (by simpa using h)
      have e : fc (a :: r) = .int .i64 (a.1 : Int) :: .bool a.2 :: fc r := rfl
      rw [e, show (i + 1) * 2 = i * 2 + 1 + 1 by omega, show i * 2 + 1 + 1 + 1 = (i * 2 + 1) + 1 + 1 by omega]
      simp only [List.getElem?_cons_succ]
      exact this

theorem fc_snoc (R : List (Nat × Bool)) (p : Nat × Bool) : fc (R ++ [p]) = fc R ++ [.int .i64 (p.1 : Int), .bool p.2] := by simp [fc]

/-- A slice without its first. -/
theorem SI.tail {w : World} {b o n cap : Nat} {x : Int} {r : List Int} (h : SI w (.slice (some ⟨b, o, none⟩) n cap) (x :: r)) : SI w (.slice (some ⟨b, o + 1, none⟩) (n - 1) (cap - 1)) r := by
  obtain ⟨ao, c', he, h1, h2, h3, h4⟩ := h
  simp only [Value.slice.injEq] at he
  obtain ⟨rfl, rfl, rfl⟩ := he
  refine ⟨some ⟨b, o + 1, none⟩, cap - 1, by simp, by simp at h1; omega, by omega, (fun e => by cases e), fun y hy i hi => ?_⟩
  cases hy
  have := h4 _ rfl (i + 1) (by simp; omega)
  rw [Addr.add_lit] at this ⊢
  rw [show o + 1 + i = o + (i + 1) by omega, this]
  simp

theorem SI.tail' {w : World} {b o n cap : Nat} {x : Int} {r : List Int} (h : SI w (.slice (some ⟨b, o, none⟩) n cap) (x :: r)) : SI w (.slice (if cap = 1 then some ⟨b, o, none⟩ else some ⟨b, o + 1, none⟩) (n - 1) (cap - 1)) r := by
  by_cases c : cap = 1
  · rw [if_pos c]
    obtain ⟨ao, c', he, h1, h2, h3, h4⟩ := h
    simp only [Value.slice.injEq] at he
    obtain ⟨rfl, rfl, rfl⟩ := he
    have hr : r = [] := by
      simp at h1
      exact List.eq_nil_of_length_eq_zero (by omega)
    subst hr
    exact ⟨_, _, rfl, by simp, by omega, (fun e => by cases e), fun y hy i hi => by simp at hi⟩
  · rw [if_neg c]
    exact h.tail

theorem SI.nil' {w : World} (a : Addr) (cap : Nat) (hc : cap ≤ maxLen) : SI w (.slice (some a) 0 cap) [] := ⟨some a, cap, rfl, Nat.zero_le _, hc, (fun e => by cases e), fun x hx i hi => by simp at hi⟩
end Go.Proofs.YtpmgnpfpnkmmbaaGreatDoor

namespace Go.Proofs.YtpmgnpfpnkmmbaaGreatDoor
open Go.RowKit Go.Maps
set_option maxRecDepth 20000
set_option linter.unusedVariables false

theorem drop_gd {l : List Nat} {k : Nat} (h : k < l.length) : l.drop k = l.getD k 0 :: l.drop (k + 1) := by
  rw [List.drop_eq_getElem_cons h, List.getD_eq_getElem?_getD, List.getElem?_eq_getElem h]
  rfl

theorem ci_drop (l : List Nat) (k : Nat) : (ci l).drop k = ci (l.drop k) := by unfold ci; rw [List.map_drop]
theorem ci_cons (a : Nat) (l : List Nat) : ci (a :: l) = (a : Int) :: ci l := rfl

end Go.Proofs.YtpmgnpfpnkmmbaaGreatDoor

namespace Go.Proofs.YtpmgnpfpnkmmbaaGreatDoor
open Go.RowKit Go.Maps
set_option maxRecDepth 20000
set_option linter.unusedVariables false

def wts (R : List (Nat × Bool)) : List Nat := R.map (·.1)

theorem wts_get {R : List (Nat × Bool)} {i : Nat} : (wts R).getD i 0 = (R.getD i (0, false)).1 := by
  simp only [wts, List.getD_eq_getElem?_getD, List.getElem?_map]
  cases R[i]? <;> rfl

/-- The first k packages, zeros behind them. -/
def pko (l : List Nat) (k : Nat) : List Int := ci ((pks l).take k) ++ List.replicate (l.length / 2 - k) 0

theorem pko_len (l : List Nat) {k : Nat} (h : k ≤ l.length / 2) : (pko l k).length = l.length / 2 := by
  unfold pko
  rw [List.length_append, ci_len, List.length_take, pks_len, List.length_replicate]
  omega

theorem pko_step (l : List Nat) {k : Nat} (h : k < l.length / 2) : (pko l k).set k (((pks l).getD k 0 : Nat) : Int) = pko l (k + 1) := by
  unfold pko
  have hk : k < (pks l).length := by rw [pks_len]; exact h
  obtain ⟨m, hm⟩ : ∃ m, l.length / 2 - k = m + 1 := ⟨l.length / 2 - k - 1, by omega⟩
  have hm2 : l.length / 2 - (k + 1) = m := by omega
  have hl : (ci ((pks l).take k)).length = k := by rw [ci_len, List.length_take]; omega
  have e0 : ci ((pks l).take (k + 1)) = ci ((pks l).take k) ++ [(((pks l).getD k 0 : Nat) : Int)] := by
    unfold ci
    rw [List.take_succ_eq_append_getElem hk, List.map_append, List.getD_eq_getElem?_getD, List.getElem?_eq_getElem hk]
    rfl
  rw [hm, hm2, e0]
  conv => lhs; arg 2; rw [← hl]
  rw [List.set_append_right _ _ (Nat.le_refl _), Nat.sub_self, List.replicate_succ, List.set_cons_zero, List.append_assoc]
  rfl

end Go.Proofs.YtpmgnpfpnkmmbaaGreatDoor

namespace Go.Proofs.YtpmgnpfpnkmmbaaGreatDoor
open Go.RowKit Go.Maps
set_option maxRecDepth 20000
set_option linter.unusedVariables false

/-- The rows of coins. -/
def crw (ws : List Nat) : Nat → List (Nat × Bool)
  | 0 => cmr ws []
  | k + 1 => cmr ws (pks (wts (crw ws k)))

theorem crw_row (ws : List Nat) (k : Nat) : wts (crw ws k) = row ws (k + 1) := by
  induction k with
  | zero => unfold wts crw; rw [cmr_fst]; rfl
  | succ k ih =>
    have e : crw ws (k + 1) = cmr ws (pks (row ws (k + 1))) := by show cmr ws (pks (wts (crw ws k))) = _; rw [ih]
    rw [e]
    unfold wts
    rw [cmr_fst]
    rfl

theorem crw_len (ws : List Nat) (k : Nat) : (crw ws k).length ≤ 2 * ws.length := by
  induction k with
  | zero => show (cmr ws []).length ≤ _; rw [cmr_len]; simp; omega
  | succ k ih =>
    show (cmr ws (pks (wts (crw ws k)))).length ≤ _
    rw [cmr_len, pks_len]
    have : (wts (crw ws k)).length = (crw ws k).length := by simp [wts]
    omega

theorem crw_le (ws : List Nat) (b : Nat) (h : ∀ x ∈ ws, x ≤ b) (k : Nat) : ∀ x ∈ wts (crw ws k), x ≤ b * 2 ^ k := by
  induction k with
  | zero =>
    intro x hx
    rw [crw_row] at hx
    rcases mrg_mem hx with q | q
    · have := h x q; omega
    · simp [row, pks] at q
  | succ k ih =>
    intro x hx
    rw [crw_row] at hx
    have hp : b * 2 ^ (k + 1) = b * 2 ^ k * 2 := by rw [Nat.pow_succ, Nat.mul_assoc]
    have h1 : b ≤ b * 2 ^ k := Nat.le_mul_of_pos_right _ (Nat.two_pow_pos k)
    rcases mrg_mem hx with q | q
    · have := h x q; omega
    · obtain ⟨a, c, ha, hc, rfl⟩ := pks_mem q
      rw [← crw_row] at ha hc
      have := ih a ha
      have := ih c hc
      omega

theorem row_lt' {w : World} {base : Nat} {e : TypeId} {size : Nat} {v : Value} {n : Nat} {xs : List Value} (h : w.ownsRow base e size v n xs) : ∀ k, v.ownBlock = some k → base ≤ k ∧ k < w.heap.size := World.ownsRow.lt h

theorem row_move' {w w' : World} {base : Nat} {e : TypeId} {size : Nat} {v : Value} {n : Nat} {xs : List Value} (h : w.ownsRow base e size v n xs) (hb : ∀ k, v.ownBlock = some k → w'.heap[k]? = w.heap[k]?) : w'.ownsRow base e size v n xs := by
  refine ⟨h.1, ?_⟩
  rcases h.2 with h2 | ⟨g, cap, cur, rfl, h1, h2, r⟩
  · exact .inl h2
  · exact .inr ⟨g, cap, cur, rfl, h1, (hb g rfl).trans h2, r⟩

end Go.Proofs.YtpmgnpfpnkmmbaaGreatDoor

namespace Go.Proofs.YtpmgnpfpnkmmbaaGreatDoor
open Go.RowKit
variable {F : Fence} {n : Nat} {P : Program}

/-- How the body of a round may be left. -/
def roundEnd2 (I : Nat → Obj → World → Prop) (Ix : Code → Obj → World → Prop) (m : Nat) (o : Obj) : Exit → Act → World → Prop
  | .normal, _, W => ∃ m', m' + 1 = m ∧ I m' o W
  | .ret, _, W => Ix .ret o W
  | .exit id, _, W => Ix (.exit id) o W
  | .goto t, _, W => Ix (.goto t) o W
  | .panic _, _, _ => False
  | .outgrown, _, _ => False

/-- A loop over an iterator that may itself write memory, and whose body may write what the iterator reads. -/
theorem wp_range2 {α : Type} {g : Operand} {ps : Array Tmp} {assign body : Code} {Q : Exit → Act → World → Prop} {a : Act} {w : World} (m0 : Nat)
    (hro : F.round = none) (h1 : 1 ≤ n) {gf : Nat} {lb : Array Value} (hg : a.eval g = .func (.func gf) #[] lb) (hFg : F.fn gf) (eg : ∀ args w, (callFunc gf args).run P w = .ok (.enter gf args) w)
    {encs : α → Array Value} (hps : ∀ x, (encs x).size = ps.size)
    (I : Nat → Obj → World → Prop) (Iy : Nat → α → Obj → World → Prop) (Ie : Obj → World → Prop) (Ix : Code → Obj → World → Prop)
    (rI : ∀ m, H4.Rec (w.heap.size + 1) (I m)) (ry : ∀ m x, H4.Rec (w.heap.size + 1) (Iy m x)) (re : H4.Rec (w.heap.size + 1) Ie) (rx : ∀ c, H4.Rec (w.heap.size + 1) (Ix c))
    (h0 : ∀ o, I m0 o ((w.alloc (.deferred (some []))).alloc o))
    (hseq : ∀ (o : Obj) (Jx : World → Prop), (∀ m x W, Iy m x o W → YieldAt F (n - 1 - 1) P (w.heap.size + 1) (encs x) W fun e W' => (e = .returned (.bool true) ∧ ∃ m', m' + 1 = m ∧ I m' o W') ∨ (e = .returned (.bool false) ∧ Jx W')) →
      ∀ W, I m0 o W → CallsIn F (n - 1) P gf (#[.func (.yield (w.heap.size + 1)) #[] #[]] ++ lb) W fun e W' => (∃ v, e = .returned v) ∧ (Ie o W' ∨ Jx W'))
    (a₁ : α → Act)
    (hassign : ∀ (x : α) (W : World) (K : Act → World → Prop), K (a₁ x) W →
      assign.wpIn (F.inRound (w.heap.size + 1)) (n - 1 - 1) P (Exit.then K (fun _ _ _ => False)) { tmps := (ps.zip (encs x)).foldl (fun t (p, v) => t.setIfInBounds p v) a.tmps, defers := [] } W)
    (hbody : ∀ m x o W, Iy m x o W → body.wpIn (F.inRound (w.heap.size + 1)) (n - 1 - 1) P (roundEnd2 I Ix m o) (a₁ x) W)
    (hdone : ∀ o W, Ie o W → Q .normal { a with defers := { target := .collected w.heap.size, args := #[] } :: a.defers } W)
    (hstop : ∀ c o W, Ix c o W → c.wpIn F n P Q { a with defers := { target := .collected w.heap.size, args := #[] } :: a.defers } W) :
    (Code.rangeFunc g ps assign body).wpIn F n P Q a w := by
  refine wpIn_rangeFunc ?_
  intro fn hfn
  rw [hro]
  obtain ⟨rec, hrec⟩ : ∃ rec : LoopState → Option Code → Loop, rec = fun st pe => { state := st, pending := pe, fn, tmps := a.tmps, params := ps, assign, body, defers := w.heap.size } := ⟨_, rfl⟩
  obtain ⟨W1, hW1⟩ : ∃ W1, (w.alloc (.deferred (some []))).alloc (.loop (rec .ready none)) = W1 := ⟨_, rfl⟩
  have hI1 : I m0 (.loop (rec .ready none)) W1 := by rw [← hW1]; exact h0 _
  refine ⟨w.heap.size + 1, [{ target := .collected w.heap.size, args := #[] }], W1, { target := .fn (.func gf) lb, args := #[.func (.yield (w.heap.size + 1)) #[] #[]] }, W1, gf,
    #[.func (.yield (w.heap.size + 1)) #[] #[]] ++ lb, W1, ?_, ?_, ?_, ?_, fun _ => h1, ?_⟩
  · rw [← hW1, hrec]; exact run_enterLoop_outer _ _ _ _ _
  · simp only [resolve, hg]
    simp [go_sem]
  · intro f' hf'; simp [Target.leads] at hf'; subst hf'; exact hFg
  · simp [invoke, go_sem, eg]
  · refine (hseq (.loop (rec .ready none)) (fun W => ∃ c, Ix c (.loop (rec .done (some c))) W) ?_ W1 hI1).mono ?_
    · rintro m x W hi
      have hl := (ry m x).get _ _ hi
      have hlt : w.heap.size + 1 < W.heap.size := (Array.getElem?_eq_some_iff.1 hl).1
      have hy := run_yield (P := P) (args := encs x) hl (by rw [hrec]; exact hps x)
      rw [hrec] at hy
      refine ⟨fn, _, assign, body, hy, roundIn_of_wpIn hfn (hassign x W _ ⟨_, run_beginRound hl (by rw [hrec]), ?_⟩)⟩
      refine wpIn_mono (hbody m x (.loop { rec .ready none with state := .busy }) _ ((ry m x).put _ _ _ hi)) ?_
      have fin : ∀ (jump : Option Code) (W3 : World), W3.heap[w.heap.size + 1]? = some (.loop { rec .ready none with state := .busy }) →
          (Instr.endRound (w.heap.size + 1) jump).run P W3 = .ok (.bool jump.isNone) (W3.putObj (w.heap.size + 1) (.loop (rec (if jump.isNone then .ready else .done) jump))) := fun jump W3 hl3 => by
        have := run_endRound (P := P) jump hl3
        rw [hrec] at this ⊢
        exact this
      rintro e a3 W3 hp
      cases e with
      | normal =>
        obtain ⟨m', hm', hi3⟩ := hp
        exact ⟨_, _, fin none W3 ((rI m').get _ _ hi3), .inl ⟨rfl, m', hm', (rI m').put _ _ _ hi3⟩⟩
      | ret => exact ⟨_, _, fin (some .ret) W3 ((rx _).get _ _ hp), .inr ⟨rfl, .ret, (rx _).put _ _ _ hp⟩⟩
      | exit id => exact ⟨_, _, fin (some (.exit id)) W3 ((rx _).get _ _ hp), .inr ⟨rfl, .exit id, (rx _).put _ _ _ hp⟩⟩
      | goto t => exact ⟨_, _, fin (some (.goto t)) W3 ((rx _).get _ _ hp), .inr ⟨rfl, .goto t, (rx _).put _ _ _ hp⟩⟩
      | panic ch => exact hp.elim
      | outgrown => exact hp.elim
    · rintro e W2 ⟨⟨v, rfl⟩, (hi | ⟨c, hi⟩)⟩
      · exact ⟨none, _, by have := run_endLoop (P := P) (re.get _ _ hi) (by rw [hrec]; simp); rw [hrec] at this; exact this, hdone _ _ (re.put _ _ _ hi)⟩
      · exact ⟨some c, _, by have := run_endLoop (P := P) ((rx c).get _ _ hi) (by rw [hrec]; simp); rw [hrec] at this; exact this, hstop c _ _ ((rx c).put _ _ _ hi)⟩

end Go.Proofs.YtpmgnpfpnkmmbaaGreatDoor

