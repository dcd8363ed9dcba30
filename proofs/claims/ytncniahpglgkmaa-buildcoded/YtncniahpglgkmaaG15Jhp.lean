import Derived.Test.YtncniahpglgkmaaG14Cst
import Derived.Test.YtncniahpglgkmaaG03QBase
import Derived.Test.YtncniahpglgkmaaG08QHpop
namespace Go.Proofs.Ytncniahpglgkmaa
open Go.RowKit Go.Maps
set_option maxRecDepth 20000
set_option linter.unusedVariables false

/-- Numbers as ints. -/
def ci (l : List Nat) : List Int := l.map fun s : Nat => (s : Int)

theorem ci_len (l : List Nat) : (ci l).length = l.length := by simp [ci]

theorem ci_get {l : List Nat} {k : Nat} : (ci l).getD k 0 = ((l.getD k 0 : Nat) : Int) := by
  simp only [ci, List.getD_eq_getElem?_getD, List.getElem?_map]
  cases l[k]? <;> simp

theorem getD_mem6 {l : List Nat} {k : Nat} (h : k < l.length) : l.getD k 0 ∈ l := by
  rw [show l.getD k 0 = l[k] by simp [h]]
  exact List.getElem_mem h

/-- The symbols that are used, among the first k. -/
def usk (l : List Int) (k : Nat) : List Nat := (List.range k).filter fun s => decide (0 < l.getD s 0)
def us6 (l : List Int) : List Nat := usk l l.length

theorem usk_succ (l : List Int) (k : Nat) : usk l (k + 1) = usk l k ++ if 0 < l.getD k 0 then [k] else [] := by
  unfold usk
  rw [List.range_succ, List.filter_append]
  by_cases h : 0 < l.getD k 0
  · rw [if_pos h]; congr 1; rw [List.filter_cons_of_pos (by simpa using h)]; rfl
  · rw [if_neg h]; congr 1; rw [List.filter_cons_of_neg (by simpa using h)]; rfl

theorem usk_len (l : List Int) (k : Nat) : (usk l k).length ≤ k := by
  have := List.length_filter_le (fun s => decide (0 < l.getD s 0)) (List.range k)
  rw [List.length_range] at this
  exact this

theorem mem_us {l : List Int} {s : Nat} : s ∈ us6 l ↔ s < l.length ∧ 0 < l.getD s 0 := by
  unfold us6 usk
  simp [List.mem_filter]

theorem us_nodup (l : List Int) : (us6 l).Nodup := List.nodup_range.filter _

theorem us_rise (l : List Int) : (us6 l).Pairwise (· < ·) := List.pairwise_lt_range.filter _

theorem OI.putg {w : World} {B g n c : Nat} {l : List Int} (h : OI w B (.slice (some ⟨g, 0, none⟩) n c) l) {k : Nat} (hk : k < l.length) (m : Int) :
    (∃ u, w.cell? ⟨g, k, none⟩ = some u) ∧ w.frozen? ⟨g, k, none⟩ = false ∧ OI (w.setCell ⟨g, k, none⟩ (.int .i64 m)) B (.slice (some ⟨g, 0, none⟩) n c) (l.set k m) := by
  obtain ⟨g', c', hv, h1, h2, h3⟩ := h.put hk m
  simp only [Value.slice.injEq, Option.some.injEq, Addr.mk.injEq, and_true] at hv
  obtain ⟨rfl, -, -⟩ := hv
  exact ⟨h1, h2, h3⟩

theorem mk_oi {w w' : World} {n : Nat} (hg : w'.heap[w.heap.size]? = some (.cells (List.replicate n (Value.int .i64 0)).toArray 3 (0, 0))) (hn : n ≤ 1000000) : OI w' w.heap.size (.slice (some ⟨w.heap.size, 0, none⟩) n n) (List.replicate n 0) := by
  have h := OI.of_full (w := w') (base := w.heap.size) (g := w.heap.size) (l := List.replicate n 0) (by rw [List.map_replicate]; exact hg) (Nat.le_refl _) (by rw [List.length_replicate]; unfold maxLen; omega)
  rwa [List.length_replicate] at h

theorem used_any6 (v : Value) (l : List Int) (w : World) (h : SI w v l) (hr : l.length ≤ 288) :
    Calls Try.prog 13 #[v] w fun e w' => ∃ a c, e = .returned (.slice a (us6 l).length c) ∧ OI w' w.heap.size (.slice a (us6 l).length c) (ci (us6 l)) ∧ Below w.heap.size w w' := by
  have HS := hide h
  obtain ⟨ao, cap, rfl, hlc, hcm⟩ := h.open
  clear h
  go_enter Try.func13, Try.ntmps13
  go_wp2
  go_loopw [3, 8] (fun u i wr => ∃ k : Nat, k ≤ l.length ∧ i = .int .i64 k ∧ Hid (OI wr w.heap.size u (ci (usk l k))) ∧ Hid (Below w.heap.size w wr)) (fun _ i _ => l.length - (intOf i).toNat)
  case atStart => exact ⟨0, Nat.zero_le _, rfl, hide (show OI _ _ _ [] from World.ownsRow_nil _ _ _ _), Below.refl _ _⟩
  case round =>
    obtain ⟨k, hk, rfl, HO, HB⟩ := hrel
    by_cases hlt : k < l.length
    · have hlt' : (k : Int) < (l.length : Int) := by omega
      obtain ⟨b, o, rfl, hc⟩ := HS.out.get HB.out hlt
      have HD : Hid (ci (usk l (k + 1)) = ci (usk l k) ++ if 0 < l.getD k 0 then [(k : Int)] else []) := by
        show _ = _
        rw [usk_succ]
        unfold ci
        rw [List.map_append]
        by_cases q : 0 < l.getD k 0
        · rw [if_pos q, if_pos q]; rfl
        · rw [if_neg q, if_neg q]; rfl
      have hDl0 := usk_len l k
      obtain ⟨y, HY⟩ : ∃ y, Hid (y = l.getD k 0) := ⟨_, rfl⟩
      rw [← HY.out] at hc HD
      obtain ⟨D, HDD⟩ : ∃ D, Hid (D = ci (usk l k)) := ⟨_, rfl⟩
      have hDl : D.length ≤ k := by rw [HDD.out, ci_len]; exact hDl0
      rw [← HDD.out] at HO HD
      clear hDl0
      have hBw := HB.out.size
      obtain ⟨a1, p1, hu⟩ := HO.out.shape
      subst hu
      by_cases hy : 0 < y
      · have HE : Hid (ci (usk l (k + 1)) = D ++ [(k : Int)]) := by show _ = _; rw [HD.out, if_pos hy]
        have HALC : Hid (OI (wr.alloc (.cells #[.int .i64 (k : Int)] 3)) w.heap.size (.slice a1 D.length p1) D) := HO.out.alloc _
        have HSR : Hid (Src Try.prog 1 23 (.slice (some ⟨wr.heap.size, 0, none⟩) 1 1) ([(k : Int)] : List Int).length (([(k : Int)] : List Int).map (Value.int .i64)) (wr.alloc (.cells #[.int .i64 (k : Int)] 3))) := built_srcI wr [(k : Int)]
        go_wp2_with (at_builtin; refine wpList_appI rfl _ _ 23 rfl w.heap.size _ _ D [(k : Int)] rfl HALC.out rfl HSR.out (by simp; omega) (by simp; omega) ?_)
        intro v3 w3 ho3 hgr3
        have HN : Hid (OI w3 w.heap.size v3 (ci (usk l (k + 1))) ∧ Below w.heap.size w w3) := ⟨by rw [HE.out]; exact ho3, grow_one HB.out HO.out hgr3⟩
        clear ho3 hgr3
        go_wp2
        go_roundw
        case rel => exact ⟨k + 1, by omega, by go_num, HN.out.1, HN.out.2⟩
        case measure => simp [intOf]; omega
      · have HE : Hid (OI wr w.heap.size (.slice a1 D.length p1) (ci (usk l (k + 1)))) := by show OI _ _ _ _; rw [HD.out, if_neg hy, List.append_nil]; exact HO.out
        go_wp2
        go_roundw
        case rel => exact ⟨k + 1, by omega, by go_num, HE, HB⟩
        case measure => simp [intOf]; omega
    · obtain rfl : k = l.length := by omega
      have hlt' : ¬ (l.length : Int) < (l.length : Int) := by omega
      have HF : Hid (OI wr w.heap.size u3 (ci (us6 l))) := HO.out
      clear HO
      obtain ⟨a1, p1, hu⟩ := HF.out.shape
      rw [ci_len] at hu
      subst hu
      go_wp2
      go_ret
      exact ⟨_, _, rfl, HF.out, HB.out⟩

/-- n numbers, g's at the places of S, 0 elsewhere. -/
def spr (n : Nat) (S : List Nat) (g : Nat → Int) : List Int := (List.range n).map fun s => if s ∈ S then g s else 0

theorem spr_len (n : Nat) (S : List Nat) (g : Nat → Int) : (spr n S g).length = n := by simp [spr]

theorem spr_nil (n : Nat) (g : Nat → Int) : spr n [] g = List.replicate n 0 := by
  unfold spr
  simp [List.map_const']

theorem spr_step {n : Nat} {S : List Nat} (g : Nat → Int) {k : Nat} (hk : k < S.length) : (spr n (S.take k) g).set (S.getD k 0) (g (S.getD k 0)) = spr n (S.take (k + 1)) g := by
  apply List.ext_getElem
  · simp [spr]
  · intro i h1 h2
    rw [List.getElem_set]
    have e : S.take (k + 1) = S.take k ++ [S.getD k 0] := by
      rw [List.take_succ_eq_append_getElem hk]
      simp [hk]
    by_cases c : S.getD k 0 = i
    · rw [if_pos c]
      simp only [spr, List.getElem_map, List.getElem_range]
      rw [if_pos (by rw [e, ← c]; simp), c]
    · rw [if_neg c]
      simp only [spr, List.getElem_map, List.getElem_range]
      have : i ∈ S.take (k + 1) ↔ i ∈ S.take k := by
        rw [e, List.mem_append]
        constructor
        · rintro (h | h)
          · exact h
          · simp at h; exact absurd h.symm (by simpa using c)
        · exact .inl
      by_cases q : i ∈ S.take k
      · rw [if_pos q, if_pos (this.2 q)]
      · rw [if_neg q, if_neg fun h => q (this.1 h)]

theorem few_any (n : Nat) (v : Value) (S : List Nat) (w : World) (h : SI w v (ci S)) (hS : ∀ s ∈ S, s < n) (hn : n ≤ 288) (hL : S.length ≤ 288) :
    Calls Try.prog 14 #[.int .i64 n, v] w fun e w' => ∃ a c, e = .returned (.slice a n c) ∧ OI w' w.heap.size (.slice a n c) (spr n S fun _ => 1) ∧ Below w.heap.size w w' := by
  have HS := hide h
  obtain ⟨ao, cap, rfl, hlc, hcm⟩ := h.open
  rw [ci_len] at hlc
  clear h
  rw [ci_len] at HS ⊢
  have HR := hide hS
  clear hS
  go_enter Try.func14, Try.ntmps14
  go_wp2_with (at_make; refine wpList_mkI rfl _ _ rfl _ _ _ _ n n rfl rfl rfl rfl (Nat.le_refl _) (by omega) ?_)
  intro w1 hg hb1
  have HO1 : Hid (OI w1 w.heap.size (.slice (some ⟨w.heap.size, 0, none⟩) n n) (spr n (S.take 0) fun _ => 1)) := by show OI _ _ _ _; rw [List.take_zero, spr_nil]; exact mk_oi hg (by omega)
  have HB1 := hide hb1
  have HSI : Hid (SI w (.slice ao (ci S).length cap) (ci S)) := by rw [ci_len]; exact HS.out
  clear hg hb1
  go_wp2
  go_loopw [12] (fun i wr => ∃ k : Nat, k ≤ S.length ∧ i = .int .i64 k ∧ Hid (OI wr w.heap.size (.slice (some ⟨w.heap.size, 0, none⟩) n n) (spr n (S.take k) fun _ => 1)) ∧ Hid (Below w.heap.size w wr)) (fun i _ => S.length - (intOf i).toNat)
  case atStart => exact ⟨0, Nat.zero_le _, rfl, HO1, HB1⟩
  case round =>
    obtain ⟨k, hk, rfl, HO, HB⟩ := hrel
    by_cases hlt : k < S.length
    · have hlt' : (k : Int) < (S.length : Int) := by omega
      obtain ⟨b, o, rfl, hc⟩ := HSI.out.get HB.out (k := k) (by rw [ci_len]; exact hlt)
      rw [ci_get] at hc
      have hsn := HR.out _ (getD_mem6 hlt)
      have HST := hide (spr_step (n := n) (S := S) (fun _ => 1) hlt)
      obtain ⟨s, hs⟩ : ∃ s, s = S.getD k 0 := ⟨_, rfl⟩
      rw [← hs] at hc hsn HST
      clear hs
      obtain ⟨⟨u, hu⟩, hfz, ho⟩ := HO.out.putg (k := s) (by rw [spr_len]; exact hsn) 1
      have HN : Hid (OI (wr.setCell ⟨w.heap.size, s, none⟩ (.int .i64 1)) w.heap.size (.slice (some ⟨w.heap.size, 0, none⟩) n n) (spr n (S.take (k + 1)) fun _ => 1)) := by rw [← HST.out]; exact ho
      have HBN : Hid (Below w.heap.size w (wr.setCell ⟨w.heap.size, s, none⟩ (.int .i64 1))) := HB.out.setCell (Nat.le_refl _) _
      clear ho
      go_wp2
      go_roundw
      case rel => exact ⟨k + 1, by omega, by go_num, HN, HBN⟩
      case measure => simp [intOf]; omega
    · obtain rfl : k = S.length := by omega
      have hlt' : ¬ (S.length : Int) < (S.length : Int) := by omega
      have HF : Hid (OI wr w.heap.size (.slice (some ⟨w.heap.size, 0, none⟩) n n) (spr n S fun _ => 1)) := by have := HO.out; rwa [List.take_of_length_le (Nat.le_refl _)] at this
      go_wp2
      go_ret
      exact ⟨_, _, rfl, HF.out, HB.out⟩

theorem gm_get {S : List Nat} {g : Nat → Int} {k : Nat} (h : k < S.length) : (S.map g).getD k 0 = g (S.getD k 0) := by
  rw [List.getD_eq_getElem?_getD, List.getElem?_map, List.getElem?_eq_getElem h]
  simp [h]

theorem spread_any (n : Nat) (v vl : Value) (S : List Nat) (g : Nat → Int) (w : World) (h : SI w v (ci S)) (hl : SI w vl (S.map g)) (hS : ∀ s ∈ S, s < n) (hn : n ≤ 288) (hL : S.length ≤ 288) :
    Calls Try.prog 16 #[.int .i64 n, v, vl] w fun e w' => ∃ a c, e = .returned (.slice a n c) ∧ OI w' w.heap.size (.slice a n c) (spr n S g) ∧ Below w.heap.size w w' := by
  have HS := hide h
  have HL := hide hl
  obtain ⟨ao, cap, rfl, hlc, hcm⟩ := h.open
  obtain ⟨al, cal, rfl, hlc2, hcm2⟩ := hl.open
  rw [ci_len] at hlc
  rw [List.length_map] at hlc2
  clear h hl
  rw [ci_len] at HS ⊢
  rw [List.length_map] at HL ⊢
  have HR := hide hS
  clear hS
  go_enter Try.func16, Try.ntmps16
  go_wp2_with (at_make; refine wpList_mkI rfl _ _ rfl _ _ _ _ n n rfl rfl rfl rfl (Nat.le_refl _) (by omega) ?_)
  intro w1 hg hb1
  have HO1 : Hid (OI w1 w.heap.size (.slice (some ⟨w.heap.size, 0, none⟩) n n) (spr n (S.take 0) g)) := by show OI _ _ _ _; rw [List.take_zero, spr_nil]; exact mk_oi hg (by omega)
  have HB1 := hide hb1
  have HSI : Hid (SI w (.slice ao (ci S).length cap) (ci S)) := by rw [ci_len]; exact HS.out
  have HLI : Hid (SI w (.slice al (S.map g).length cal) (S.map g)) := by rw [List.length_map]; exact HL.out
  clear hg hb1
  go_wp2
  go_loopw [14] (fun i wr => ∃ k : Nat, k ≤ S.length ∧ i = .int .i64 k ∧ Hid (OI wr w.heap.size (.slice (some ⟨w.heap.size, 0, none⟩) n n) (spr n (S.take k) g)) ∧ Hid (Below w.heap.size w wr)) (fun i _ => S.length - (intOf i).toNat)
  case atStart => exact ⟨0, Nat.zero_le _, rfl, HO1, HB1⟩
  case round =>
    obtain ⟨k, hk, rfl, HO, HB⟩ := hrel
    by_cases hlt : k < S.length
    · have hlt' : (k : Int) < (S.length : Int) := by omega
      obtain ⟨b, o, rfl, hc⟩ := HSI.out.get HB.out (k := k) (by rw [ci_len]; exact hlt)
      obtain ⟨b2, o2, rfl, hc2⟩ := HLI.out.get HB.out (k := k) (by rw [List.length_map]; exact hlt)
      rw [ci_get] at hc
      rw [gm_get hlt] at hc2
      have hsn := HR.out _ (getD_mem6 hlt)
      have HST := hide (spr_step (n := n) (S := S) g hlt)
      obtain ⟨s, hs⟩ : ∃ s, s = S.getD k 0 := ⟨_, rfl⟩
      rw [← hs] at hc hc2 hsn HST
      clear hs
      obtain ⟨y, hy⟩ : ∃ y, y = g s := ⟨_, rfl⟩
      rw [← hy] at hc2 HST
      clear hy
      obtain ⟨⟨u, hu⟩, hfz, ho⟩ := HO.out.putg (k := s) (by rw [spr_len]; exact hsn) y
      have HN : Hid (OI (wr.setCell ⟨w.heap.size, s, none⟩ (.int .i64 y)) w.heap.size (.slice (some ⟨w.heap.size, 0, none⟩) n n) (spr n (S.take (k + 1)) g)) := by rw [← HST.out]; exact ho
      have HBN : Hid (Below w.heap.size w (wr.setCell ⟨w.heap.size, s, none⟩ (.int .i64 y))) := HB.out.setCell (Nat.le_refl _) _
      clear ho
      go_wp2
      go_roundw
      case rel => exact ⟨k + 1, by omega, by go_num, HN, HBN⟩
      case measure => simp [intOf]; omega
    · obtain rfl : k = S.length := by omega
      have hlt' : ¬ (S.length : Int) < (S.length : Int) := by omega
      have HF : Hid (OI wr w.heap.size (.slice (some ⟨w.heap.size, 0, none⟩) n n) (spr n S g)) := by have := HO.out; rwa [List.take_of_length_le (Nat.le_refl _)] at this
      go_wp2
      go_ret
      exact ⟨_, _, rfl, HF.out, HB.out⟩

/-- The first k of g's numbers of S, zeros behind them. -/
def pik (S : List Nat) (g : Nat → Int) (k : Nat) : List Int := (S.take k).map g ++ List.replicate (S.length - k) 0

theorem pik_len {S : List Nat} (g : Nat → Int) {k : Nat} (h : k ≤ S.length) : (pik S g k).length = S.length := by
  simp [pik]; omega

theorem pik_step {S : List Nat} (g : Nat → Int) {k : Nat} (hk : k < S.length) : (pik S g k).set k (g (S.getD k 0)) = pik S g (k + 1) := by
  unfold pik
  obtain ⟨m, hm⟩ : ∃ m, S.length - k = m + 1 := ⟨S.length - k - 1, by omega⟩
  have hm2 : S.length - (k + 1) = m := by omega
  have hl : ((S.take k).map g).length = k := by simp; omega
  rw [hm, hm2, List.take_succ_eq_append_getElem hk, List.map_append]
  conv => lhs; arg 2; rw [← hl]
  rw [List.set_append_right _ _ (Nat.le_refl _), Nat.sub_self, List.replicate_succ, List.set_cons_zero]
  simp [hk]

theorem pick_any (v vs : Value) (l : List Int) (S : List Nat) (w : World) (h : SI w v l) (hs : SI w vs (ci S)) (hS : ∀ s ∈ S, s < l.length) (hL : S.length ≤ 288) :
    Calls Try.prog 18 #[v, vs] w fun e w' => ∃ a c, e = .returned (.slice a S.length c) ∧ OI w' w.heap.size (.slice a S.length c) (S.map fun s => l.getD s 0) ∧ Below w.heap.size w w' := by
  have HS := hide hs
  have HL := hide h
  obtain ⟨ao, cap, rfl, hlc, hcm⟩ := hs.open
  obtain ⟨al, cal, rfl, hlc2, hcm2⟩ := h.open
  rw [ci_len] at hlc
  clear h hs
  rw [ci_len] at HS ⊢
  have HR := hide hS
  clear hS
  go_enter Try.func18, Try.ntmps18
  go_wp2_with (at_make; refine wpList_mkI rfl _ _ rfl _ _ _ _ S.length S.length rfl rfl rfl rfl (Nat.le_refl _) (by omega) ?_)
  intro w1 hg hb1
  have HO1 : Hid (OI w1 w.heap.size (.slice (some ⟨w.heap.size, 0, none⟩) S.length S.length) (pik S (fun s => l.getD s 0) 0)) := by
    show OI _ _ _ _
    have e : pik S (fun s => l.getD s 0) 0 = List.replicate S.length 0 := by simp [pik]
    rw [e]; exact mk_oi hg (by omega)
  have HB1 := hide hb1
  have HSI : Hid (SI w (.slice ao (ci S).length cap) (ci S)) := by rw [ci_len]; exact HS.out
  clear hg hb1
  go_wp2
  go_loopw [13] (fun i wr => ∃ k : Nat, k ≤ S.length ∧ i = .int .i64 k ∧ Hid (OI wr w.heap.size (.slice (some ⟨w.heap.size, 0, none⟩) S.length S.length) (pik S (fun s => l.getD s 0) k)) ∧ Hid (Below w.heap.size w wr)) (fun i _ => S.length - (intOf i).toNat)
  case atStart => exact ⟨0, Nat.zero_le _, rfl, HO1, HB1⟩
  case round =>
    obtain ⟨k, hk, rfl, HO, HB⟩ := hrel
    by_cases hlt : k < S.length
    · have hlt' : (k : Int) < (S.length : Int) := by omega
      obtain ⟨b, o, rfl, hc⟩ := HSI.out.get HB.out (k := k) (by rw [ci_len]; exact hlt)
      rw [ci_get] at hc
      have hsn := HR.out _ (getD_mem6 hlt)
      have HST := hide (pik_step (S := S) (fun s => l.getD s 0) hlt)
      obtain ⟨s, hs⟩ : ∃ s, s = S.getD k 0 := ⟨_, rfl⟩
      rw [← hs] at hc hsn HST
      clear hs
      have hsn' : (s : Int) < (l.length : Int) := by omega
      obtain ⟨b2, o2, rfl, hc2⟩ := HL.out.get HB.out hsn
      obtain ⟨y, hy⟩ : ∃ y, y = l.getD s 0 := ⟨_, rfl⟩
      rw [← hy] at hc2 HST
      clear hy
      obtain ⟨⟨u, hu⟩, hfz, ho⟩ := HO.out.putg (k := k) (by rw [pik_len _ hk]; exact hlt) y
      have HN : Hid (OI (wr.setCell ⟨w.heap.size, k, none⟩ (.int .i64 y)) w.heap.size (.slice (some ⟨w.heap.size, 0, none⟩) S.length S.length) (pik S (fun s => l.getD s 0) (k + 1))) := by rw [← HST.out]; exact ho
      have HBN : Hid (Below w.heap.size w (wr.setCell ⟨w.heap.size, k, none⟩ (.int .i64 y))) := HB.out.setCell (Nat.le_refl _) _
      clear ho
      go_wp2
      go_roundw
      case rel => exact ⟨k + 1, by omega, by go_num, HN, HBN⟩
      case measure => simp [intOf]; omega
    · obtain rfl : k = S.length := by omega
      have hlt' : ¬ (S.length : Int) < (S.length : Int) := by omega
      have HF : Hid (OI wr w.heap.size (.slice (some ⟨w.heap.size, 0, none⟩) S.length S.length) (S.map fun s => l.getD s 0)) := by
        have := HO.out
        unfold pik at this
        rwa [List.take_of_length_le (Nat.le_refl _), Nat.sub_self, List.replicate_zero, List.append_nil] at this
      go_wp2
      go_ret
      exact ⟨_, _, rfl, HF.out, HB.out⟩
end Go.Proofs.Ytncniahpglgkmaa

namespace Go.Proofs.Ytncniahpglgkmaa
open Go.RowKit Go.Maps
set_option maxRecDepth 20000
set_option linter.unusedVariables false

/-- The heap's row and the row of nodes with numbers tell the same. -/
def Hz (R : List (H4.It Int)) (Z : List Znd) : Prop := R.map (fun x => (x.key, x.val)) = Z.map fun z => ((z.1.1 : Int), (z.2 : Int))

theorem Hz.len {R : List (H4.It Int)} {Z : List Znd} (h : Hz R Z) : R.length = Z.length := by
  have := congrArg List.length h
  simpa using this

theorem Hz.at {R : List (H4.It Int)} {Z : List Znd} (h : Hz R Z) {i : Nat} (hi : i < Z.length) : (H4.pt R i).key = ((Z.getD i (nod0, 0)).1.1 : Int) ∧ (H4.pt R i).val = ((Z.getD i (nod0, 0)).2 : Int) := by
  have hr : i < R.length := by rw [h.len]; exact hi
  have e := congrArg (fun l => l[i]?) h
  simp only [List.getElem?_map, List.getElem?_eq_getElem hr, List.getElem?_eq_getElem hi, Option.map_some, Option.some.injEq, Prod.mk.injEq] at e
  rw [H4.pt_eq hr, show Z.getD i (nod0, 0) = Z[i] by simp [hi]]
  exact e

theorem zro_get (Z : List Znd) (i : Nat) : (zro Z).getD i nod0 = (Z.getD i (nod0, 0)).1 := by
  simp only [zro, List.getD_eq_getElem?_getD, List.getElem?_map]
  cases Z[i]? <;> rfl

theorem Hz.fst {R : List (H4.It Int)} {Z : List Znd} (h : Hz R Z) (k : Nat) (hk : k < Z.length) : H4.fstTo R (k + 1) = lgk (zro Z) k := by
  induction k with
  | zero =>
    show (if _ then 0 else 0) = 0
    split <;> rfl
  | succ k ih =>
    have ih := ih (by omega)
    have e : H4.fstTo R (k + 2) = if (H4.pt R (k + 1)).key < (H4.pt R (H4.fstTo R (k + 1))).key then k + 1 else H4.fstTo R (k + 1) := rfl
    have hle := lgk_le (zro Z) k
    rw [e, ih, (h.at hk).1, (h.at (i := lgk (zro Z) k) (by omega)).1]
    simp only [lgk, zro_get]
    by_cases c : (Z.getD (k + 1) (nod0, 0)).1.1 < (Z.getD (lgk (zro Z) k) (nod0, 0)).1.1
    · rw [if_pos c, if_pos (by omega)]
    · rw [if_neg c, if_neg (by omega)]

theorem Hz.pop {R : List (H4.It Int)} {Z : List Znd} (h : Hz R Z) (h0 : 0 < Z.length) : H4.pkK R = ((zfi Z).1.1 : Int) ∧ H4.pkV R = ((zfi Z).2 : Int) ∧ Hz (H4.rest R) (zwo Z) := by
  have hr : 0 < R.length := by rw [h.len]; exact h0
  have hne : ¬ R = [] := fun e => by rw [e] at hr; simp at hr
  have e : H4.fstTo R R.length = zlg Z := by
    have := h.fst (Z.length - 1) (by omega)
    rw [show Z.length - 1 + 1 = Z.length by omega] at this
    rw [h.len, this]
    unfold zlg lgt
    rw [zro_len]
  have hl := zlg_lt h0
  have ha := h.at hl
  refine ⟨?_, ?_, ?_⟩
  · unfold H4.pkK; rw [if_neg hne, e]; exact ha.1
  · unfold H4.pkV; rw [if_neg hne, e]; exact ha.2
  · unfold H4.rest zwo Hz
    rw [e, ← erase_map, ← erase_map]
    rw [show R.map (fun x => (x.key, x.val)) = _ from h]

theorem Hz.push {R : List (H4.It Int)} {Z : List Znd} (h : Hz R Z) (n : Int) (x : Nod) (j : Nat) : Hz (R ++ [⟨x.1, n, j⟩]) (Z ++ [(x, j)]) := by
  unfold Hz at h ⊢
  rw [List.map_append, List.map_append, h]
  rfl

/-- The list of holders. -/
def hls (N : Nat) (H : Nat → Nat) : List Int := (List.range N).map fun v => (H v : Int)

theorem hls_len (N : Nat) (H : Nat → Nat) : (hls N H).length = N := by simp [hls]

theorem hls_set (N : Nat) (H : Nat → Nat) (a b j : Nat) : ((hls N H).set a j).set b j = hls N (upd H a b j) := by
  apply List.ext_getElem
  · simp [hls]
  · intro i h1 h2
    simp only [List.getElem_set, hls, List.getElem_map, List.getElem_range, upd]
    by_cases c : b = i
    · have c' : i = b := c.symm
      simp only [if_pos c, if_pos c']
    · have c' : ¬ i = b := fun e => c e.symm
      by_cases d : a = i
      · have d' : i = a := d.symm
        simp only [if_neg c, if_neg c', if_pos d, if_pos d']
      · have d' : ¬ i = a := fun e => d e.symm
        simp only [if_neg c, if_neg c', if_neg d, if_neg d']

theorem hls_zero (N : Nat) : hls N (fun _ => 0) = List.replicate N 0 := by simp [hls, List.map_const']

/-- Total weight of a row. -/
def zsum (Z : List Znd) : Nat := (Z.map fun z => z.1.1).sum

theorem zsum_two {Z : List Znd} (h : 2 ≤ Z.length) : (zfi Z).1.1 + (zfi (zwo Z)).1.1 + zsum (zwo (zwo Z)) = zsum Z := by
  have := perm_sum (fun z : Znd => z.1.1) (zperm2 h)
  unfold zsum
  rw [this]
  simp
  omega

theorem zsum_st {Z : List Znd} (h : 2 ≤ Z.length) (j : Nat) : zsum (zst Z j) = zsum Z := by
  rw [← zsum_two h]
  unfold zsum zst
  rw [List.map_append, List.sum_append]
  have e : (hjn (zro Z)).1 = (zfi Z).1.1 + (zfi (zwo Z)).1.1 := by
    unfold hjn
    rw [zfi_fst, zfi_fst, zro_wo]
  simp [e]
  omega

theorem zfi_mem {Z : List Znd} (h : 2 ≤ Z.length) : zfi Z ∈ Z ∧ zfi (zwo Z) ∈ Z := by
  have := zperm2 h
  exact ⟨this.symm.subset (by simp), this.symm.subset (by simp)⟩

theorem zwo2 {Z : List Znd} (h : 2 ≤ Z.length) : 0 < (zwo Z).length := by rw [zwo_len (by omega)]; omega
end Go.Proofs.Ytncniahpglgkmaa

