import Derived.Test.YtkmefeihkmbngaaDoorG07QHops
import Derived.Test.YtkmefeihkmbngaaDoorG03Lsk
import Derived.Test.YtkmefeihkmbngaaDoorG02Arr
import Derived.WalkKit
import Derived.ProofKit
import Derived.OpenShut
import Derived.ShutString
import Derived.ChangeOld
import Derived.Below
import Derived.WalkLawsBesides
import Derived.WalkSpells
import Derived.Deep.QuietTactic
import Derived.BigQuiet
import Derived.Laws.CopyOwn
import Derived.SizedLaws
import Derived.Maps.Own
import Derived.Laws.BytesArg
import Derived.Laws.BitsLemmas
import Derived.Maps.AppendAt
import Derived.Deep.AppendSrc
import Derived.Deep.AppendLies
import Derived.Deep.RegionLaw
import Derived.Handy
import Derived.Laws.Rows
import Derived.Laws.Tables
import Derived.BigRegion
namespace Go.Proofs.YtkmefeihkmbngaaDoor.H4
open Go.RowKit Go.Maps
set_option maxRecDepth 20000

end Go.Proofs.YtkmefeihkmbngaaDoor.H4

namespace Go.Proofs.YtkmefeihkmbngaaDoor.H4
open Go.RowKit Go.Maps
set_option maxRecDepth 20000

end Go.Proofs.YtkmefeihkmbngaaDoor.H4

namespace Go.Proofs.YtkmefeihkmbngaaDoor
open Go.RowKit Go.Maps
set_option maxRecDepth 20000
end Go.Proofs.YtkmefeihkmbngaaDoor

namespace Go.Proofs.YtkmefeihkmbngaaDoor
open Go.RowKit Go.Maps
set_option maxRecDepth 20000

theorem grow_one {w wr w3 : World} {u v3 : Value} {D : List Int} {o : Obj} (hB : Below w.heap.size w wr) (hO : OI wr w.heap.size u D) (hg : Grew (wr.alloc o) w3 u v3) : Below w.heap.size w w3 :=
  (hB.alloc hB.size _).grown hg.by (by have := hB.size; simp; omega) (fun j hj => by have := hO.lt j hj; omega)

end Go.Proofs.YtkmefeihkmbngaaDoor

namespace Go.Proofs.YtkmefeihkmbngaaDoor
open Go.RowKit Go.Maps
set_option maxRecDepth 20000

def bnd (l : List Int) (hi : Int) (k : Nat) : Prop := ∀ i, i < k → 0 ≤ l.getD i 0 ∧ l.getD i 0 ≤ hi

def bnb (l : List Int) (hi : Int) : Bool := l.all fun x => decide (0 ≤ x) && decide (x ≤ hi)

theorem bnb_iff {l : List Int} {hi : Int} : bnb l hi = true ↔ bnd l hi l.length := by
  unfold bnb bnd
  simp only [List.all_eq_true, Bool.and_eq_true, decide_eq_true_eq]
  constructor
  · intro h i hi
    rw [show l.getD i 0 = l[i] by simp [hi]]
    exact h _ (List.getElem_mem hi)
  · intro h x hx
    obtain ⟨i, hi, rfl⟩ := List.getElem_of_mem hx
    have := h i hi
    rwa [show l.getD i 0 = l[i] by simp [hi]] at this

theorem bnd_succ {l : List Int} {hi : Int} {k : Nat} (h : bnd l hi k) (hk : 0 ≤ l.getD k 0 ∧ l.getD k 0 ≤ hi) : bnd l hi (k + 1) := fun i hi => by
  by_cases e : i = k
  · subst e; exact hk
  · exact h i (by omega)

theorem bnb_no {l : List Int} {hi : Int} {k : Nat} (hk : k < l.length) (h : ¬ (0 ≤ l.getD k 0 ∧ l.getD k 0 ≤ hi)) : bnb l hi = false := by
  cases e : bnb l hi with
  | false => rfl
  | true => exact absurd (bnb_iff.1 e k hk) h

theorem weighable_any (v : Value) (l : List Int) (w : World) (h : SI w v l) :
    Calls Tryd.prog 55 #[v] w fun e w' => e = .returned (.bool (bnb l 4294967296)) ∧ w' = w := by
  have HS := hide h
  obtain ⟨ao, cap, rfl, hlc, hcm⟩ := h.open
  clear h
  go_enter Tryd.func55, Tryd.ntmps55
  go_wp2
  go_loopw [7] (fun i wr => ∃ k : Nat, k ≤ l.length ∧ i = .int .i64 k ∧ wr = w ∧ Hid (bnd l 4294967296 k)) (fun i _ => l.length - (intOf i).toNat)
  case atStart => exact ⟨0, Nat.zero_le _, rfl, rfl, fun i hi => by omega⟩
  case round =>
    obtain ⟨k, hk, rfl, rfl, HT⟩ := hrel
    by_cases hlt : k < l.length
    · have hlt' : (k : Int) < (l.length : Int) := by omega
      obtain ⟨b, o, rfl, hc⟩ := HS.out.get (Below.refl _ _) hlt
      obtain ⟨x, HX⟩ : ∃ x, Hid (x = l.getD k 0) := ⟨_, rfl⟩
      rw [← HX.out] at hc
      by_cases hb : 0 ≤ x ∧ x ≤ 4294967296
      · have HN : Hid (bnd l 4294967296 (k + 1)) := bnd_succ HT.out (by rw [← HX.out]; exact hb)
        obtain ⟨b0, b1⟩ := hb
        have b0' : ¬ x < 0 := by omega
        have b1' : ¬ 4294967296 < x := by omega
        clear HT
        go_wp2
        go_roundw
        case rel => exact ⟨k + 1, by omega, by go_num, by trivial, HN⟩
        case measure => simp [intOf]; omega
      · have HE : Hid (bnb l 4294967296 = false) := bnb_no hlt (by rw [← HX.out]; exact hb)
        by_cases b0 : x < 0
        · clear hb
          go_wp2
          go_ret
          rw [HE.out]
          exact ⟨rfl, rfl⟩
        · have b1 : 4294967296 < x := by omega
          clear hb
          go_wp2
          go_ret
          rw [HE.out]
          exact ⟨rfl, rfl⟩
    · obtain rfl : k = l.length := by omega
      have hlt' : ¬ (l.length : Int) < (l.length : Int) := by omega
      have HE : Hid (bnb l 4294967296 = true) := bnb_iff.2 HT.out
      clear HT
      go_wp2
      go_ret
      rw [HE.out]
      exact ⟨rfl, rfl⟩

theorem weighs_any (v : Value) (l : List Int) (w : World) (h : SI w v l) :
    Calls Tryd.prog 47 #[v] w fun e w' => e = .returned (.bool (bnb l 4294967296)) ∧ w' = w := by
  have HS := hide h
  obtain ⟨ao, cap, rfl, hlc, hcm⟩ := h.open
  clear h
  go_enter Tryd.func47, Tryd.ntmps47
  go_wp2
  go_loopw [3] (fun i wr => ∃ k : Nat, k ≤ l.length ∧ i = .int .i64 k ∧ wr = w ∧ Hid (bnd l 4294967296 k)) (fun i _ => l.length - (intOf i).toNat)
  case atStart => exact ⟨0, Nat.zero_le _, rfl, rfl, fun i hi => by omega⟩
  case round =>
    obtain ⟨k, hk, rfl, rfl, HT⟩ := hrel
    by_cases hlt : k < l.length
    · have hlt' : (k : Int) < (l.length : Int) := by omega
      obtain ⟨b, o, rfl, hc⟩ := HS.out.get (Below.refl _ _) hlt
      obtain ⟨x, HX⟩ : ∃ x, Hid (x = l.getD k 0) := ⟨_, rfl⟩
      rw [← HX.out] at hc
      by_cases hb : 0 ≤ x ∧ x ≤ 4294967296
      · have HN : Hid (bnd l 4294967296 (k + 1)) := bnd_succ HT.out (by rw [← HX.out]; exact hb)
        obtain ⟨b0, b1⟩ := hb
        have b0' : ¬ x < 0 := by omega
        have b1' : ¬ 4294967296 < x := by omega
        clear HT
        go_wp2
        go_roundw
        case rel => exact ⟨k + 1, by omega, by go_num, by trivial, HN⟩
        case measure => simp [intOf]; omega
      · have HE : Hid (bnb l 4294967296 = false) := bnb_no hlt (by rw [← HX.out]; exact hb)
        by_cases b0 : x < 0
        · clear hb
          go_wp2
          go_ret
          rw [HE.out]
          exact ⟨rfl, rfl⟩
        · have b1 : 4294967296 < x := by omega
          clear hb
          go_wp2
          go_ret
          rw [HE.out]
          exact ⟨rfl, rfl⟩
    · obtain rfl : k = l.length := by omega
      have hlt' : ¬ (l.length : Int) < (l.length : Int) := by omega
      have HE : Hid (bnb l 4294967296 = true) := bnb_iff.2 HT.out
      clear HT
      go_wp2
      go_ret
      rw [HE.out]
      exact ⟨rfl, rfl⟩

def cs (f n : List Int) : Nat → Int
  | 0 => 0
  | k + 1 => cs f n k + f.getD k 0 * n.getD k 0

end Go.Proofs.YtkmefeihkmbngaaDoor

namespace Go.Proofs.YtkmefeihkmbngaaDoor
open Go.RowKit Go.Maps
set_option maxRecDepth 20000
set_option linter.unusedVariables false

def ci (l : List Nat) : List Int := l.map fun s : Nat => (s : Int)

theorem ci_len (l : List Nat) : (ci l).length = l.length := by simp [ci]

theorem ci_get {l : List Nat} {k : Nat} : (ci l).getD k 0 = ((l.getD k 0 : Nat) : Int) := by
  simp only [ci, List.getD_eq_getElem?_getD, List.getElem?_map]
  cases l[k]? <;> simp

theorem getD_mem6 {l : List Nat} {k : Nat} (h : k < l.length) : l.getD k 0 ∈ l := by
  rw [show l.getD k 0 = l[k] by simp [h]]
  exact List.getElem_mem h

def usk (l : List Int) (k : Nat) : List Nat := (List.range k).filter fun s => decide (0 < l.getD s 0)
def us6 (l : List Int) : List Nat := usk l l.length

theorem usk_succ (l : List Int) (k : Nat) : usk l (k + 1) = usk l k ++ if 0 < l.getD k 0 then [k] else [] := by
  unfold usk
  rw [List.range_succ, List.filter_append]
  by_cases h : 0 < l.getD k 0
  · rw [if_pos h]; congr 1; rw [List.filter_cons_of_pos (by simpa using h)]; rfl
  · rw [if_neg h]; congr 1; rw [List.filter_cons_of_neg (by simpa using h)]; rfl

theorem usk_len (l : List Int) (k : Nat) : (usk l k).length ≤ k := by
  have := List.length_filter_le (fun s => decide (0 < l.getD s 0)) (List.range k)
  rw [List.length_range] at this
  exact this

theorem mem_us {l : List Int} {s : Nat} : s ∈ us6 l ↔ s < l.length ∧ 0 < l.getD s 0 := by
  unfold us6 usk
  simp [List.mem_filter]

theorem us_nodup (l : List Int) : (us6 l).Nodup := List.nodup_range.filter _

theorem us_rise (l : List Int) : (us6 l).Pairwise (· < ·) := List.pairwise_lt_range.filter _

theorem OI.putg {w : World} {B g n c : Nat} {l : List Int} (h : OI w B (.slice (some ⟨g, 0, none⟩) n c) l) {k : Nat} (hk : k < l.length) (m : Int) :
    (∃ u, w.cell? ⟨g, k, none⟩ = some u) ∧ w.frozen? ⟨g, k, none⟩ = false ∧ OI (w.setCell ⟨g, k, none⟩ (.int .i64 m)) B (.slice (some ⟨g, 0, none⟩) n c) (l.set k m) := by
  obtain ⟨g', c', hv, h1, h2, h3⟩ := h.put hk m
  simp only [Value.slice.injEq, Option.some.injEq, Addr.mk.injEq, and_true] at hv
  obtain ⟨rfl, -, -⟩ := hv
  exact ⟨h1, h2, h3⟩

theorem mk_oi {w w' : World} {n : Nat} (hg : w'.heap[w.heap.size]? = some (.cells (List.replicate n (Value.int .i64 0)).toArray 3 (0, 0))) (hn : n ≤ 1000000) : OI w' w.heap.size (.slice (some ⟨w.heap.size, 0, none⟩) n n) (List.replicate n 0) := by
  have h := OI.of_full (w := w') (base := w.heap.size) (g := w.heap.size) (l := List.replicate n 0) (by rw [List.map_replicate]; exact hg) (Nat.le_refl _) (by rw [List.length_replicate]; unfold maxLen; omega)
  rwa [List.length_replicate] at h

theorem used_any6 (v : Value) (l : List Int) (w : World) (h : SI w v l) (hr : l.length ≤ 288) :
    Calls Tryd.prog 56 #[v] w fun e w' => ∃ a c, e = .returned (.slice a (us6 l).length c) ∧ OI w' w.heap.size (.slice a (us6 l).length c) (ci (us6 l)) ∧ Below w.heap.size w w' := by
  have HS := hide h
  obtain ⟨ao, cap, rfl, hlc, hcm⟩ := h.open
  clear h
  go_enter Tryd.func56, Tryd.ntmps56
  go_wp2
  go_loopw [3, 8] (fun u i wr => ∃ k : Nat, k ≤ l.length ∧ i = .int .i64 k ∧ Hid (OI wr w.heap.size u (ci (usk l k))) ∧ Hid (Below w.heap.size w wr)) (fun _ i _ => l.length - (intOf i).toNat)
  case atStart => exact ⟨0, Nat.zero_le _, rfl, hide (show OI _ _ _ [] from World.ownsRow_nil _ _ _ _), Below.refl _ _⟩
  case round =>
    obtain ⟨k, hk, rfl, HO, HB⟩ := hrel
    by_cases hlt : k < l.length
    · have hlt' : (k : Int) < (l.length : Int) := by omega
      obtain ⟨b, o, rfl, hc⟩ := HS.out.get HB.out hlt
      have HD : Hid (ci (usk l (k + 1)) = ci (usk l k) ++ if 0 < l.getD k 0 then [(k : Int)] else []) := by
        show _ = _
        rw [usk_succ]
        unfold ci
        rw [List.map_append]
        by_cases q : 0 < l.getD k 0
        · rw [if_pos q, if_pos q]; rfl
        · rw [if_neg q, if_neg q]; rfl
      have hDl0 := usk_len l k
      obtain ⟨y, HY⟩ : ∃ y, Hid (y = l.getD k 0) := ⟨_, rfl⟩
      rw [← HY.out] at hc HD
      obtain ⟨D, HDD⟩ : ∃ D, Hid (D = ci (usk l k)) := ⟨_, rfl⟩
      have hDl : D.length ≤ k := by rw [HDD.out, ci_len]; exact hDl0
      rw [← HDD.out] at HO HD
      clear hDl0
      have hBw := HB.out.size
      obtain ⟨a1, p1, hu⟩ := HO.out.shape
      subst hu
      by_cases hy : 0 < y
      · have HE : Hid (ci (usk l (k + 1)) = D ++ [(k : Int)]) := by show _ = _; rw [HD.out, if_pos hy]
        have HALC : Hid (OI (wr.alloc (.cells #[.int .i64 (k : Int)] 3)) w.heap.size (.slice a1 D.length p1) D) := HO.out.alloc _
        have HSR : Hid (Src Tryd.prog 1 23 (.slice (some ⟨wr.heap.size, 0, none⟩) 1 1) ([(k : Int)] : List Int).length (([(k : Int)] : List Int).map (Value.int .i64)) (wr.alloc (.cells #[.int .i64 (k : Int)] 3))) := built_srcI wr [(k : Int)]
        go_wp2_with (at_builtin; refine wpList_appI rfl _ _ 23 rfl w.heap.size _ _ D [(k : Int)] rfl HALC.out rfl HSR.out (by simp; omega) (by simp; omega) ?_)
        intro v3 w3 ho3 hgr3
        have HN : Hid (OI w3 w.heap.size v3 (ci (usk l (k + 1))) ∧ Below w.heap.size w w3) := ⟨by rw [HE.out]; exact ho3, grow_one HB.out HO.out hgr3⟩
        clear ho3 hgr3
        go_wp2
        go_roundw
        case rel => exact ⟨k + 1, by omega, by go_num, HN.out.1, HN.out.2⟩
        case measure => simp [intOf]; omega
      · have HE : Hid (OI wr w.heap.size (.slice a1 D.length p1) (ci (usk l (k + 1)))) := by show OI _ _ _ _; rw [HD.out, if_neg hy, List.append_nil]; exact HO.out
        go_wp2
        go_roundw
        case rel => exact ⟨k + 1, by omega, by go_num, HE, HB⟩
        case measure => simp [intOf]; omega
    · obtain rfl : k = l.length := by omega
      have hlt' : ¬ (l.length : Int) < (l.length : Int) := by omega
      have HF : Hid (OI wr w.heap.size u3 (ci (us6 l))) := HO.out
      clear HO
      obtain ⟨a1, p1, hu⟩ := HF.out.shape
      rw [ci_len] at hu
      subst hu
      go_wp2
      go_ret
      exact ⟨_, _, rfl, HF.out, HB.out⟩

def spr (n : Nat) (S : List Nat) (g : Nat → Int) : List Int := (List.range n).map fun s => if s ∈ S then g s else 0

theorem spr_len (n : Nat) (S : List Nat) (g : Nat → Int) : (spr n S g).length = n := by simp [spr]

theorem spr_nil (n : Nat) (g : Nat → Int) : spr n [] g = List.replicate n 0 := by
  unfold spr
  simp [List.map_const']

theorem spr_step {n : Nat} {S : List Nat} (g : Nat → Int) {k : Nat} (hk : k < S.length) : (spr n (S.take k) g).set (S.getD k 0) (g (S.getD k 0)) = spr n (S.take (k + 1)) g := by
  apply List.ext_getElem
  · simp [spr]
  · intro i h1 h2
    rw [List.getElem_set]
    have e : S.take (k + 1) = S.take k ++ [S.getD k 0] := by
      rw [List.take_succ_eq_append_getElem hk]
      simp [hk]
    by_cases c : S.getD k 0 = i
    · rw [if_pos c]
      simp only [spr, List.getElem_map, List.getElem_range]
      rw [if_pos (by rw [e, ← c]; simp), c]
    · rw [if_neg c]
      simp only [spr, List.getElem_map, List.getElem_range]
      have : i ∈ S.take (k + 1) ↔ i ∈ S.take k := by
        rw [e, List.mem_append]
        constructor
        · rintro (h | h)
          · exact h
          · simp at h; exact absurd h.symm (by simpa using c)
        · exact .inl
      by_cases q : i ∈ S.take k
      · rw [if_pos q, if_pos (this.2 q)]
      · rw [if_neg q, if_neg fun h => q (this.1 h)]

theorem few_any (n : Nat) (v : Value) (S : List Nat) (w : World) (h : SI w v (ci S)) (hS : ∀ s ∈ S, s < n) (hn : n ≤ 288) (hL : S.length ≤ 288) :
    Calls Tryd.prog 57 #[.int .i64 n, v] w fun e w' => ∃ a c, e = .returned (.slice a n c) ∧ OI w' w.heap.size (.slice a n c) (spr n S fun _ => 1) ∧ Below w.heap.size w w' := by
  have HS := hide h
  obtain ⟨ao, cap, rfl, hlc, hcm⟩ := h.open
  rw [ci_len] at hlc
  clear h
  rw [ci_len] at HS ⊢
  have HR := hide hS
  clear hS
  go_enter Tryd.func57, Tryd.ntmps57
  go_wp2_with (at_make; refine wpList_mkI rfl _ _ rfl _ _ _ _ n n rfl rfl rfl rfl (Nat.le_refl _) (by omega) ?_)
  intro w1 hg hb1
  have HO1 : Hid (OI w1 w.heap.size (.slice (some ⟨w.heap.size, 0, none⟩) n n) (spr n (S.take 0) fun _ => 1)) := by show OI _ _ _ _; rw [List.take_zero, spr_nil]; exact mk_oi hg (by omega)
  have HB1 := hide hb1
  have HSI : Hid (SI w (.slice ao (ci S).length cap) (ci S)) := by rw [ci_len]; exact HS.out
  clear hg hb1
  go_wp2
  go_loopw [12] (fun i wr => ∃ k : Nat, k ≤ S.length ∧ i = .int .i64 k ∧ Hid (OI wr w.heap.size (.slice (some ⟨w.heap.size, 0, none⟩) n n) (spr n (S.take k) fun _ => 1)) ∧ Hid (Below w.heap.size w wr)) (fun i _ => S.length - (intOf i).toNat)
  case atStart => exact ⟨0, Nat.zero_le _, rfl, HO1, HB1⟩
  case round =>
    obtain ⟨k, hk, rfl, HO, HB⟩ := hrel
    by_cases hlt : k < S.length
    · have hlt' : (k : Int) < (S.length : Int) := by omega
      obtain ⟨b, o, rfl, hc⟩ := HSI.out.get HB.out (k := k) (by rw [ci_len]; exact hlt)
      rw [ci_get] at hc
      have hsn := HR.out _ (getD_mem6 hlt)
      have HST := hide (spr_step (n := n) (S := S) (fun _ => 1) hlt)
      obtain ⟨s, hs⟩ : ∃ s, s = S.getD k 0 := ⟨_, rfl⟩
      rw [← hs] at hc hsn HST
      clear hs
      obtain ⟨⟨u, hu⟩, hfz, ho⟩ := HO.out.putg (k := s) (by rw [spr_len]; exact hsn) 1
      have HN : Hid (OI (wr.setCell ⟨w.heap.size, s, none⟩ (.int .i64 1)) w.heap.size (.slice (some ⟨w.heap.size, 0, none⟩) n n) (spr n (S.take (k + 1)) fun _ => 1)) := by rw [← HST.out]; exact ho
      have HBN : Hid (Below w.heap.size w (wr.setCell ⟨w.heap.size, s, none⟩ (.int .i64 1))) := HB.out.setCell (Nat.le_refl _) _
      clear ho
      go_wp2
      go_roundw
      case rel => exact ⟨k + 1, by omega, by go_num, HN, HBN⟩
      case measure => simp [intOf]; omega
    · obtain rfl : k = S.length := by omega
      have hlt' : ¬ (S.length : Int) < (S.length : Int) := by omega
      have HF : Hid (OI wr w.heap.size (.slice (some ⟨w.heap.size, 0, none⟩) n n) (spr n S fun _ => 1)) := by have := HO.out; rwa [List.take_of_length_le (Nat.le_refl _)] at this
      go_wp2
      go_ret
      exact ⟨_, _, rfl, HF.out, HB.out⟩

theorem gm_get {S : List Nat} {g : Nat → Int} {k : Nat} (h : k < S.length) : (S.map g).getD k 0 = g (S.getD k 0) := by
  rw [List.getD_eq_getElem?_getD, List.getElem?_map, List.getElem?_eq_getElem h]
  simp [h]

theorem spread_any (n : Nat) (v vl : Value) (S : List Nat) (g : Nat → Int) (w : World) (h : SI w v (ci S)) (hl : SI w vl (S.map g)) (hS : ∀ s ∈ S, s < n) (hn : n ≤ 288) (hL : S.length ≤ 288) :
    Calls Tryd.prog 59 #[.int .i64 n, v, vl] w fun e w' => ∃ a c, e = .returned (.slice a n c) ∧ OI w' w.heap.size (.slice a n c) (spr n S g) ∧ Below w.heap.size w w' := by
  have HS := hide h
  have HL := hide hl
  obtain ⟨ao, cap, rfl, hlc, hcm⟩ := h.open
  obtain ⟨al, cal, rfl, hlc2, hcm2⟩ := hl.open
  rw [ci_len] at hlc
  rw [List.length_map] at hlc2
  clear h hl
  rw [ci_len] at HS ⊢
  rw [List.length_map] at HL ⊢
  have HR := hide hS
  clear hS
  go_enter Tryd.func59, Tryd.ntmps59
  go_wp2_with (at_make; refine wpList_mkI rfl _ _ rfl _ _ _ _ n n rfl rfl rfl rfl (Nat.le_refl _) (by omega) ?_)
  intro w1 hg hb1
  have HO1 : Hid (OI w1 w.heap.size (.slice (some ⟨w.heap.size, 0, none⟩) n n) (spr n (S.take 0) g)) := by show OI _ _ _ _; rw [List.take_zero, spr_nil]; exact mk_oi hg (by omega)
  have HB1 := hide hb1
  have HSI : Hid (SI w (.slice ao (ci S).length cap) (ci S)) := by rw [ci_len]; exact HS.out
  have HLI : Hid (SI w (.slice al (S.map g).length cal) (S.map g)) := by rw [List.length_map]; exact HL.out
  clear hg hb1
  go_wp2
  go_loopw [14] (fun i wr => ∃ k : Nat, k ≤ S.length ∧ i = .int .i64 k ∧ Hid (OI wr w.heap.size (.slice (some ⟨w.heap.size, 0, none⟩) n n) (spr n (S.take k) g)) ∧ Hid (Below w.heap.size w wr)) (fun i _ => S.length - (intOf i).toNat)
  case atStart => exact ⟨0, Nat.zero_le _, rfl, HO1, HB1⟩
  case round =>
    obtain ⟨k, hk, rfl, HO, HB⟩ := hrel
    by_cases hlt : k < S.length
    · have hlt' : (k : Int) < (S.length : Int) := by omega
      obtain ⟨b, o, rfl, hc⟩ := HSI.out.get HB.out (k := k) (by rw [ci_len]; exact hlt)
      obtain ⟨b2, o2, rfl, hc2⟩ := HLI.out.get HB.out (k := k) (by rw [List.length_map]; exact hlt)
      rw [ci_get] at hc
      rw [gm_get hlt] at hc2
      have hsn := HR.out _ (getD_mem6 hlt)
      have HST := hide (spr_step (n := n) (S := S) g hlt)
      obtain ⟨s, hs⟩ : ∃ s, s = S.getD k 0 := ⟨_, rfl⟩
      rw [← hs] at hc hc2 hsn HST
      clear hs
      obtain ⟨y, hy⟩ : ∃ y, y = g s := ⟨_, rfl⟩
      rw [← hy] at hc2 HST
      clear hy
      obtain ⟨⟨u, hu⟩, hfz, ho⟩ := HO.out.putg (k := s) (by rw [spr_len]; exact hsn) y
      have HN : Hid (OI (wr.setCell ⟨w.heap.size, s, none⟩ (.int .i64 y)) w.heap.size (.slice (some ⟨w.heap.size, 0, none⟩) n n) (spr n (S.take (k + 1)) g)) := by rw [← HST.out]; exact ho
      have HBN : Hid (Below w.heap.size w (wr.setCell ⟨w.heap.size, s, none⟩ (.int .i64 y))) := HB.out.setCell (Nat.le_refl _) _
      clear ho
      go_wp2
      go_roundw
      case rel => exact ⟨k + 1, by omega, by go_num, HN, HBN⟩
      case measure => simp [intOf]; omega
    · obtain rfl : k = S.length := by omega
      have hlt' : ¬ (S.length : Int) < (S.length : Int) := by omega
      have HF : Hid (OI wr w.heap.size (.slice (some ⟨w.heap.size, 0, none⟩) n n) (spr n S g)) := by have := HO.out; rwa [List.take_of_length_le (Nat.le_refl _)] at this
      go_wp2
      go_ret
      exact ⟨_, _, rfl, HF.out, HB.out⟩

def pik (S : List Nat) (g : Nat → Int) (k : Nat) : List Int := (S.take k).map g ++ List.replicate (S.length - k) 0

theorem pik_len {S : List Nat} (g : Nat → Int) {k : Nat} (h : k ≤ S.length) : (pik S g k).length = S.length := by
  simp [pik]; omega

theorem pik_step {S : List Nat} (g : Nat → Int) {k : Nat} (hk : k < S.length) : (pik S g k).set k (g (S.getD k 0)) = pik S g (k + 1) := by
  unfold pik
  obtain ⟨m, hm⟩ : ∃ m, S.length - k = m + 1 := ⟨S.length - k - 1, by omega⟩
  have hm2 : S.length - (k + 1) = m := by omega
  have hl : ((S.take k).map g).length = k := by simp; omega
  rw [hm, hm2, List.take_succ_eq_append_getElem hk, List.map_append]
  conv => lhs; arg 2; rw [← hl]
  rw [List.set_append_right _ _ (Nat.le_refl _), Nat.sub_self, List.replicate_succ, List.set_cons_zero]
  simp [hk]

theorem pick_any (v vs : Value) (l : List Int) (S : List Nat) (w : World) (h : SI w v l) (hs : SI w vs (ci S)) (hS : ∀ s ∈ S, s < l.length) (hL : S.length ≤ 288) :
    Calls Tryd.prog 61 #[v, vs] w fun e w' => ∃ a c, e = .returned (.slice a S.length c) ∧ OI w' w.heap.size (.slice a S.length c) (S.map fun s => l.getD s 0) ∧ Below w.heap.size w w' := by
  have HS := hide hs
  have HL := hide h
  obtain ⟨ao, cap, rfl, hlc, hcm⟩ := hs.open
  obtain ⟨al, cal, rfl, hlc2, hcm2⟩ := h.open
  rw [ci_len] at hlc
  clear h hs
  rw [ci_len] at HS ⊢
  have HR := hide hS
  clear hS
  go_enter Tryd.func61, Tryd.ntmps61
  go_wp2_with (at_make; refine wpList_mkI rfl _ _ rfl _ _ _ _ S.length S.length rfl rfl rfl rfl (Nat.le_refl _) (by omega) ?_)
  intro w1 hg hb1
  have HO1 : Hid (OI w1 w.heap.size (.slice (some ⟨w.heap.size, 0, none⟩) S.length S.length) (pik S (fun s => l.getD s 0) 0)) := by
    show OI _ _ _ _
    have e : pik S (fun s => l.getD s 0) 0 = List.replicate S.length 0 := by simp [pik]
    rw [e]; exact mk_oi hg (by omega)
  have HB1 := hide hb1
  have HSI : Hid (SI w (.slice ao (ci S).length cap) (ci S)) := by rw [ci_len]; exact HS.out
  clear hg hb1
  go_wp2
  go_loopw [13] (fun i wr => ∃ k : Nat, k ≤ S.length ∧ i = .int .i64 k ∧ Hid (OI wr w.heap.size (.slice (some ⟨w.heap.size, 0, none⟩) S.length S.length) (pik S (fun s => l.getD s 0) k)) ∧ Hid (Below w.heap.size w wr)) (fun i _ => S.length - (intOf i).toNat)
  case atStart => exact ⟨0, Nat.zero_le _, rfl, HO1, HB1⟩
  case round =>
    obtain ⟨k, hk, rfl, HO, HB⟩ := hrel
    by_cases hlt : k < S.length
    · have hlt' : (k : Int) < (S.length : Int) := by omega
      obtain ⟨b, o, rfl, hc⟩ := HSI.out.get HB.out (k := k) (by rw [ci_len]; exact hlt)
      rw [ci_get] at hc
      have hsn := HR.out _ (getD_mem6 hlt)
      have HST := hide (pik_step (S := S) (fun s => l.getD s 0) hlt)
      obtain ⟨s, hs⟩ : ∃ s, s = S.getD k 0 := ⟨_, rfl⟩
      rw [← hs] at hc hsn HST
      clear hs
      have hsn' : (s : Int) < (l.length : Int) := by omega
      obtain ⟨b2, o2, rfl, hc2⟩ := HL.out.get HB.out hsn
      obtain ⟨y, hy⟩ : ∃ y, y = l.getD s 0 := ⟨_, rfl⟩
      rw [← hy] at hc2 HST
      clear hy
      obtain ⟨⟨u, hu⟩, hfz, ho⟩ := HO.out.putg (k := k) (by rw [pik_len _ hk]; exact hlt) y
      have HN : Hid (OI (wr.setCell ⟨w.heap.size, k, none⟩ (.int .i64 y)) w.heap.size (.slice (some ⟨w.heap.size, 0, none⟩) S.length S.length) (pik S (fun s => l.getD s 0) (k + 1))) := by rw [← HST.out]; exact ho
      have HBN : Hid (Below w.heap.size w (wr.setCell ⟨w.heap.size, k, none⟩ (.int .i64 y))) := HB.out.setCell (Nat.le_refl _) _
      clear ho
      go_wp2
      go_roundw
      case rel => exact ⟨k + 1, by omega, by go_num, HN, HBN⟩
      case measure => simp [intOf]; omega
    · obtain rfl : k = S.length := by omega
      have hlt' : ¬ (S.length : Int) < (S.length : Int) := by omega
      have HF : Hid (OI wr w.heap.size (.slice (some ⟨w.heap.size, 0, none⟩) S.length S.length) (S.map fun s => l.getD s 0)) := by
        have := HO.out
        unfold pik at this
        rwa [List.take_of_length_le (Nat.le_refl _), Nat.sub_self, List.replicate_zero, List.append_nil] at this
      go_wp2
      go_ret
      exact ⟨_, _, rfl, HF.out, HB.out⟩
end Go.Proofs.YtkmefeihkmbngaaDoor

