import Derived.Test.YtmjdpfigkojolaaGreatDoorG05Rw3
namespace Go.Proofs.YtmjdpfigkojolaaGreatDoor
open Go.RowKit Go.Maps
set_option maxRecDepth 20000
set_option linter.unusedVariables false

theorem lay_more (a : List Int) (k : Nat) (x : Int) : a ++ List.replicate (k + 1) x = (a ++ List.replicate k x) ++ [x] := by
  rw [List.replicate_succ', List.append_assoc]

set_option maxHeartbeats 1000000 in
theorem layr_any (u : Value) (acc : List Int) (s : Int) (c : Nat) (w : World) (B : Nat) (h : OI w B u acc) (hB : B ≤ w.heap.size) (h16 : s = 16 → 0 < acc.length) (hc : c ≤ 138) (hl : acc.length ≤ 1000000000) :
    Calls Tryz.prog 115 #[u, .agg #[.int .i64 s, .int .i64 c]] w fun e w' => ∃ u', e = .returned u' ∧ OI w' B u' (lay acc (s, (c : Int))) ∧ Below B w w' := by
  have HO := hide h
  obtain ⟨a, p, rfl⟩ := h.shape
  have HM := hide (meant_any s (.slice a acc.length p) acc (w.alloc (.cells #[.int .i64 s, .int .i64 c] 175)) (h.alloc _).sb h16)
  obtain ⟨V, HV⟩ : ∃ V, Hid (V = mnt s acc) := ⟨_, rfl⟩
  have HL : Hid (lay acc (s, (c : Int)) = acc ++ List.replicate c V) := by show _ = _; unfold lay; rw [HV.out]; rfl
  rw [← HV.out] at HM
  clear h h16
  go_enter Tryz.func115, Tryz.ntmps115
  go_wp2_with fail
  refine HM.out.mono ?_
  rintro e w1 ⟨rfl, hw1⟩
  subst hw1
  obtain ⟨w1, hw1⟩ : ∃ w1, w.alloc (.cells #[.int .i64 s, .int .i64 c] 175) = w1 := ⟨_, rfl⟩
  have HO1 : Hid (OI w1 B (.slice a acc.length p) acc) := by rw [← hw1]; exact hide (HO.out.alloc _)
  have HB1 : Hid (Below B w w1) := by rw [← hw1]; exact hide ((Below.refl _ _).alloc hB _)
  have cc : w1.cell? ⟨w.heap.size, 1, none⟩ = some (.int .i64 c) := by rw [← hw1]; unfold World.cell?; simp only [heap_alloc_new]; rfl
  rw [hw1]
  clear HM hw1
  go_wp2
  go_loopw [0, 12] (fun x i wr => ∃ k : Nat, k ≤ c ∧ i = .int .i64 k ∧ Hid (OI wr B x (acc ++ List.replicate k V)) ∧ Hid (Below B w wr)) (fun _ i _ => c - (intOf i).toNat)
  case atStart => exact ⟨0, Nat.zero_le _, rfl, by show OI _ _ _ _; simp only [List.replicate_zero, List.append_nil]; exact HO1.out, HB1.out⟩
  case round =>
    obtain ⟨k, hk, rfl, HX, HB⟩ := hrel
    by_cases hlt : k < c
    · have hlt' : (k : Int) < (c : Int) := by omega
      have HD := hide (lay_more acc k V)
      obtain ⟨D, HDD⟩ : ∃ D : List Int, Hid (D = acc ++ List.replicate k V) := ⟨_, hide rfl⟩
      have hDl : D.length ≤ 2000000000 := by rw [HDD.out, List.length_append, List.length_replicate]; omega
      rw [← HDD.out] at HX HD
      have hBw := HB.out.size
      obtain ⟨a2, p2, hu⟩ := HX.out.shape
      subst hu
      have HALC : Hid (OI (wr.alloc (.cells #[.int .i64 V] 3)) B (.slice a2 D.length p2) D) := HX.out.alloc _
      have HSR : Hid (Src Tryz.prog 1 113 (.slice (some ⟨wr.heap.size, 0, none⟩) 1 1) ([V] : List Int).length (([V] : List Int).map (Value.int .i64)) (wr.alloc (.cells #[.int .i64 V] 3))) := built_srcI wr [V]
      go_wp2_with (at_builtin; refine wpList_appI rfl _ _ 113 rfl B _ _ D [V] rfl HALC.out rfl HSR.out (by simp; omega) (by simp; omega) ?_)
      intro v3 w3 ho3 hgr3
      have HN : Hid (OI w3 B v3 (acc ++ List.replicate (k + 1) V) ∧ Below B w w3) := ⟨by rw [HD.out]; exact ho3, grow_one7 HB.out hB HX.out hgr3⟩
      clear ho3 hgr3
      go_wp2
      go_roundw
      case rel => exact ⟨k + 1, by omega, by go_num, HN.out.1, HN.out.2⟩
      case measure => simp [intOf]; omega
    · obtain rfl : k = c := by omega
      have hlt' : ¬ (k : Int) < (k : Int) := by omega
      have HF : Hid (OI wr B u0 (lay acc (s, (k : Int)))) := by show OI _ _ _ _; rw [HL.out]; exact HX.out
      clear HX
      obtain ⟨a2, p2, hu⟩ := HF.out.shape
      subst hu
      go_wp2
      go_ret
      exact ⟨_, rfl, HF.out, HB.out⟩

def tot (R : List Rn) : Nat := (lays [] R).length

theorem tot_snoc (R : List Rn) (p : Rn) : tot (R ++ [p]) = tot R + p.2.toNat := by unfold tot; rw [lays_snoc, lay_len]
theorem rn_snoc {R : List Rn} {k : Nat} (h : k < R.length) : R.take (k + 1) = R.take k ++ [R.getD k rn0] := by
  rw [List.take_succ_eq_append_getElem h]
  simp [h]

theorem xpE_snoc : ∀ (S : List Rn) (a : List Int) (r : Rn), xpE a S = 0 → xpE a (S ++ [r]) = if Okr r then if r.1 = 16 ∧ lays a S = [] then 73 else 0 else 77
  | [], a, r, _ => rfl
  | q :: S, a, r, h => by
    simp only [xpE] at h
    by_cases h1 : Okr q
    · rw [if_pos h1] at h
      by_cases h2 : q.1 = 16 ∧ a = []
      · rw [if_pos h2] at h; omega
      · rw [if_neg h2] at h
        have := xpE_snoc S (lay a q) r h
        simp only [List.cons_append, xpE]
        rw [if_pos h1, if_neg h2]
        exact this
    · rw [if_neg h1] at h; omega

theorem xpE_front : ∀ (S T : List Rn) (a : List Int), xpE a S ≠ 0 → xpE a (S ++ T) = xpE a S
  | [], T, a, h => absurd rfl h
  | q :: S, T, a, h => by
    simp only [List.cons_append, xpE] at h ⊢
    by_cases h1 : Okr q
    · rw [if_pos h1] at h ⊢
      by_cases h2 : q.1 = 16 ∧ a = []
      · rw [if_pos h2]; rw [if_pos h1, if_pos h2]
      · rw [if_neg h2] at h ⊢
        rw [if_pos h1, if_neg h2]
        exact xpE_front S T (lay a q) h
    · rw [if_neg h1, if_neg h1]

theorem xpE_at {R : List Rn} {k : Nat} (hk : k < R.length) (h0 : xpE [] (R.take k) = 0) :
    (¬ Okr (R.getD k rn0) → xpE [] R = 77) ∧ (Okr (R.getD k rn0) → (R.getD k rn0).1 = 16 → tot (R.take k) = 0 → xpE [] R = 73) ∧ (Okr (R.getD k rn0) → ((R.getD k rn0).1 = 16 → tot (R.take k) ≠ 0) → xpE [] (R.take (k + 1)) = 0) := by
  have e := xpE_snoc (R.take k) [] (R.getD k rn0) h0
  rw [← rn_snoc hk] at e
  have ez : lays [] (R.take k) = [] ↔ tot (R.take k) = 0 := by unfold tot; exact List.length_eq_zero_iff.symm
  have key : xpE [] (R.take (k + 1)) ≠ 0 → xpE [] R = xpE [] (R.take (k + 1)) := fun h => by
    have := xpE_front (R.take (k + 1)) (R.drop (k + 1)) [] h
    rwa [List.take_append_drop] at this
  refine ⟨fun h => ?_, fun h h1 h2 => ?_, fun h h1 => ?_⟩
  · rw [if_neg h] at e
    rw [key (by omega), e]
  · rw [if_pos h, if_pos ⟨h1, ez.2 h2⟩] at e
    rw [key (by omega), e]
  · rw [if_pos h, if_neg (fun q => h1 q.1 (ez.1 q.2))] at e
    exact e

theorem okr_parts {r : Rn} (h : Okr r) : ∃ s c : Nat, r = ((s : Int), (c : Int)) ∧ s < 19 ∧ lst s ≤ c ∧ (c : Int) ≤ mst s ∧ 1 ≤ c ∧ c ≤ 138 := by
  obtain ⟨a, b⟩ := r
  obtain ⟨h1, h2, h3, h4⟩ := h
  simp only at h1 h2 h3 h4
  obtain ⟨s, rfl⟩ := Int.eq_ofNat_of_zero_le h1
  have hs : s < 19 := by omega
  have hb : 1 ≤ b ∧ b ≤ 138 := by
    rcases tab_cases s hs with ⟨x, _, y⟩ | ⟨x, _, y⟩ | ⟨x, _, y⟩ | ⟨x, _, y⟩ <;> rw [x] at h3 <;> rw [y] at h4 <;> omega
  obtain ⟨c, rfl⟩ := Int.eq_ofNat_of_zero_le (show 0 ≤ b by omega)
  exact ⟨s, c, rfl, hs, h3, h4, by omega, by omega⟩

end Go.Proofs.YtmjdpfigkojolaaGreatDoor

namespace Go.Proofs.YtmjdpfigkojolaaGreatDoor
open Go.RowKit Go.Maps
set_option maxRecDepth 20000
set_option linter.unusedVariables false

theorem getset {α : Type} {xs : List α} {i : Nat} {a b : α} (h : xs[i]? = some a) : (xs.set i b)[i]? = some b := by
  rw [List.getElem?_set_self', h]
  rfl

theorem Herd.same {W w : World} {xs : List ((Nat → Nat) × Thing)} (H : Herd W w xs) {i : Nat} {a : (Nat → Nat) × Thing} (h : xs[i]? = some a) : Herd W w (xs.set i a) := by
  have e : xs.set i a = xs := by
    apply List.ext_getElem?
    intro n
    rw [List.getElem?_set]
    by_cases c : i = n
    · subst c
      rw [if_pos rfl, h, if_pos (List.getElem?_eq_some_iff.1 h).1]
    · rw [if_neg c]
  rw [e]
  exact H

theorem Herd.front {W w : World} {xs : List ((Nat → Nat) × Thing)} {x : (Nat → Nat) × Thing} (h : Herd W w (xs ++ [x])) : Herd W w xs := by
  have up : ∀ (i : Nat) d, xs[i]? = some d → (xs ++ [x])[i]? = some d := fun i d hd => by
    rw [List.getElem?_append_left (List.getElem?_eq_some_iff.1 hd).1]; exact hd
  exact ⟨h.bel, fun i d hd => h.rep i d (up i d hd), fun i d hd => h.up i d (up i d hd), fun i j d e hd he => h.sep i j d e (up i d hd) (up j e he)⟩

theorem setf {α : Type} {xs : List α} {i : Nat} {a b x : α} (h : xs[i]? = some a) : (xs ++ [x]).set i b = xs.set i b ++ [x] := List.set_append_left _ _ (List.getElem?_eq_some_iff.1 h).1

theorem get_front {α : Type} {xs : List α} {i : Nat} {a x : α} (h : xs[i]? = some a) : (xs ++ [x])[i]? = some a := by
  rw [List.getElem?_append_left (List.getElem?_eq_some_iff.1 h).1]; exact h

theorem get_last {α : Type} (xs : List α) (x : α) : (xs ++ [x])[xs.length]? = some x := by simp

def Low (N : Nat) (xs : List ((Nat → Nat) × Thing)) : Prop := ∀ (i : Nat) (d : (Nat → Nat) × Thing), xs[i]? = some d → ∀ k, d.1 k ≠ 0 → k < N

theorem Herd.low {W w : World} {xs : List ((Nat → Nat) × Thing)} (H : Herd W w xs) : Low w.heap.size xs := fun i d hd k hk => d.2.sup (H.rep i d hd) k hk

theorem Low.set {N : Nat} {xs : List ((Nat → Nat) × Thing)} (h : Low N xs) {i : Nat} {K : Nat → Nat} {x y : Thing} (hi : xs[i]? = some (K, x)) : Low N (xs.set i (K, y)) := fun j d hd k hk => by
  rcases get_set hd with ⟨_, hd⟩ | ⟨_, rfl⟩
  · exact h j d hd k hk
  · exact h i _ hi k hk

theorem Herd.keep {W w w' : World} {xs : List ((Nat → Nat) × Thing)} (H : Herd W w xs) {N : Nat} (hN : Low N xs) (hW : W.heap.size ≤ N) (hb : Below N w w') : Herd W w' xs :=
  ⟨H.bel.trans (hb.mono hW), fun i d hd => d.2.far (H.rep i d hd) hb.size fun k hk => hb.block k (hN i d hd k hk), H.up, H.sep⟩

def tib (B : Nat) (v : Value) (l : List Int) : Thing :=
  ⟨fun w K => OI w B v l ∧ (∀ k, v.ownBlock = some k → K k ≠ 0) ∧ ∀ k, K k ≠ 0 → k < w.heap.size,
   fun h a b => ⟨h.1.move fun k hk => b k (h.2.1 k hk), h.2.1, fun k hk => Nat.lt_of_lt_of_le (h.2.2 k hk) a⟩, fun h => h.2.2⟩

theorem Herd.tibs {W w : World} {xs : List ((Nat → Nat) × Thing)} (H : Herd W w xs) {B : Nat} (hN : Low B xs) (hW : W.heap.size ≤ B) {v : Value} {l : List Int} (ho : OI w B v l) : ∃ K, Herd W w (xs ++ [(K, tib B v l)]) := by
  refine ⟨fun k => if v.ownBlock = some k then 1 else 0, H.bel, fun i d hd => ?_, fun i d hd k hk => ?_, fun i j d e hd he hij k hk => ?_⟩
  · rcases get_snoc hd with hd | ⟨_, rfl⟩
    · exact H.rep i d hd
    · refine ⟨ho, fun k hk => by simp [hk], fun k hk => ?_⟩
      by_cases e : v.ownBlock = some k
      · exact (ho.lt k e).2
      · simp [e] at hk
  · rcases get_snoc hd with hd | ⟨_, rfl⟩
    · exact H.up i d hd k hk
    · by_cases e : v.ownBlock = some k
      · have := (ho.lt k e).1; omega
      · simp [e] at hk
  · rcases get_snoc hd with hd | ⟨e1, rfl⟩
    · rcases get_snoc he with he | ⟨e2, rfl⟩
      · exact H.sep i j d e hd he hij k hk
      · have h1 := hN i d hd k hk
        by_cases q : v.ownBlock = some k
        · have := (ho.lt k q).1; omega
        · simp [q]
    · rcases get_snoc he with he | ⟨e2, rfl⟩
      · by_cases q : v.ownBlock = some k
        · have h2 := (ho.lt k q).1
          by_cases z : e.1 k = 0
          · exact z
          · have := hN j e he k z; omega
        · simp [q] at hk
      · omega

theorem Herd.mid {W w : World} {xs : List ((Nat → Nat) × Thing)} {y z : (Nat → Nat) × Thing} (H : Herd W w (xs ++ [y] ++ [z])) : Herd W w (xs ++ [z]) := by
  have f1 : ∀ (i : Nat) d, (xs ++ [z])[i]? = some d → (xs ++ [y] ++ [z])[if i < xs.length then i else i + 1]? = some d := fun i d hd => by
    by_cases c : i < xs.length
    · rw [if_pos c, List.append_assoc, List.getElem?_append_left c]
      rwa [List.getElem?_append_left c] at hd
    · rw [if_neg c, List.getElem?_append_right (by simp; omega)]
      rw [List.getElem?_append_right (by omega)] at hd
      rw [← hd]
      congr 1
      simp
  exact ⟨H.bel, fun i d hd => H.rep _ d (f1 i d hd), fun i d hd => H.up _ d (f1 i d hd), fun i j d e hd he hij => H.sep _ _ d e (f1 i d hd) (f1 j e he) (by split <;> split <;> omega)⟩

theorem Herd.tibput {W w : World} {xs : List ((Nat → Nat) × Thing)} {B b n c : Nat} {K : Nat → Nat} {l : List Int} (H : Herd W w (xs ++ [(K, tib B (.slice (some ⟨b, 0, none⟩) n c) l)])) {k : Nat} (hk : k < l.length) (m : Int) :
    (∃ u, w.cell? ⟨b, k, none⟩ = some u) ∧ w.frozen? ⟨b, k, none⟩ = false ∧ Herd W (w.setCell ⟨b, k, none⟩ (.int .i64 m)) (xs ++ [(K, tib B (.slice (some ⟨b, 0, none⟩) n c) (l.set k m))]) := by
  have h : (tib B (.slice (some ⟨b, 0, none⟩) n c) l).P w K := H.rep xs.length _ (get_last _ _)
  obtain ⟨g, c', hv, h1, h2, h3⟩ := h.1.put hk m
  simp only [Value.slice.injEq, Option.some.injEq, Addr.mk.injEq, and_true] at hv
  obtain ⟨rfl, -, -⟩ := hv
  have hg : K b ≠ 0 := h.2.1 b rfl
  have h4 := H.op xs.length (get_last _ _) (x' := tib B (.slice (some ⟨b, 0, none⟩) n c) (l.set k m)) (K' := K) ⟨h3, h.2.1, fun k hk => by rw [size_setCell]; exact h.2.2 k hk⟩ ⟨rfl, rfl, rfl, by rw [size_setCell]; exact Nat.le_refl _, fun q _ h0 => setCell_others _ _ _ _ _ (fun e => hg (by rw [← e]; exact h0)), fun _ _ => rfl⟩
  rw [show (xs ++ [(K, tib B (.slice (some ⟨b, 0, none⟩) n c) l)]).set xs.length (K, tib B (.slice (some ⟨b, 0, none⟩) n c) (l.set k m)) = xs ++ [(K, tib B (.slice (some ⟨b, 0, none⟩) n c) (l.set k m))] by simp] at h4
  exact ⟨h1, h2, h4⟩

theorem Herd.tibo {W w : World} {xs : List ((Nat → Nat) × Thing)} (H : Herd W w xs) (i : Nat) {B : Nat} {K : Nat → Nat} {v : Value} {l : List Int} (hi : xs[i]? = some (K, tib B v l)) : OI w B v l := by
  have h : (tib B v l).P w K := H.rep i _ hi
  exact h.1

theorem Herd.tibi {W w : World} {xs : List ((Nat → Nat) × Thing)} {B : Nat} {K : Nat → Nat} {v : Value} {l : List Int} (H : Herd W w (xs ++ [(K, tib B v l)])) : Herd W w (xs ++ [(K, ti v l)]) := by
  have hp : (tib B v l).P w K := H.rep xs.length _ (get_last _ _)
  refine ⟨H.bel, fun i d hd => ?_, fun i d hd => ?_, fun i j d e hd he hij => ?_⟩
  · rcases get_snoc hd with q | ⟨_, rfl⟩
    · exact H.rep i d (get_front q)
    · exact ⟨hp.1.base (Nat.zero_le _), hp.2⟩
  · rcases get_snoc hd with q | ⟨e, rfl⟩
    · exact H.up i d (get_front q)
    · exact H.up i (K, tib B v l) (by rw [e]; exact get_last _ _)
  · rcases get_snoc hd with q | ⟨e1, rfl⟩
    · rcases get_snoc he with q2 | ⟨e2, rfl⟩
      · exact H.sep i j d e (get_front q) (get_front q2) hij
      · exact H.sep i j d (K, tib B v l) (get_front q) (by rw [e2]; exact get_last _ _) hij
    · rcases get_snoc he with q2 | ⟨e2, rfl⟩
      · exact H.sep i j (K, tib B v l) e (by rw [e1]; exact get_last _ _) (get_front q2) hij
      · omega

theorem Herd.box1 {W w : World} {xs : List ((Nat → Nat) × Thing)} (h : Herd W w xs) (o : Obj) : ∃ K, Herd W (w.alloc o) (xs ++ [(K, tb w.heap.size o)]) := by
  refine ⟨fun k => if k = w.heap.size then 1 else 0, h.push ((Below.refl _ _).alloc (Nat.le_refl _) _) ⟨heap_alloc_new w _, by simp, fun k hk => ?_⟩ fun k hk => ?_⟩
  · by_cases e : k = w.heap.size
    · subst e; simp
    · simp [e] at hk
  · by_cases e : k = w.heap.size
    · omega
    · simp [e] at hk

theorem Herd.tbs {W w : World} {xs : List ((Nat → Nat) × Thing)} {K : Nat → Nat} {g : Nat} {o : Obj} (h : Herd W w (xs ++ [(K, tb g o)])) : w.heap[g]? = some o := by
  have hp : (tb g o).P w K := h.rep xs.length _ (get_last _ _)
  exact hp.1

theorem u32_31 {v : Int} (h0 : 0 ≤ v) (h1 : v < 4294967296) : bits .and .u32 v 31 = v % 32 := by
  have := bits_mask .u32 32 (by decide) (fun n a b => by rw [IntKind.wrap_u32]; omega) 5 (by decide) v h0 (by omega)
  simpa using this

def Cbox (w : World) (g : Nat) (a b c : Int) : Prop := w.heap[g]? = some (.cells #[.int .i64 a, .int .i64 b, .int .i64 c] 136 (0, 0))
theorem Cbox.cells {w : World} {g : Nat} {a b c : Int} (h : Cbox w g a b c) : w.cell? ⟨g, 0, none⟩ = some (.int .i64 a) ∧ w.cell? ⟨g, 1, none⟩ = some (.int .i64 b) ∧ w.cell? ⟨g, 2, none⟩ = some (.int .i64 c) := by
  unfold Cbox at h
  refine ⟨?_, ?_, ?_⟩ <;> (unfold World.cell?; rw [h]; rfl)
theorem Cbox.frozen {w : World} {g : Nat} {a b c : Int} (h : Cbox w g a b c) : w.frozen? ⟨g, 0, none⟩ = false ∧ w.frozen? ⟨g, 1, none⟩ = false ∧ w.frozen? ⟨g, 2, none⟩ = false := by
  unfold Cbox at h
  refine ⟨?_, ?_, ?_⟩ <;> (unfold World.frozen?; rw [h]; rfl)
theorem Cbox.lt {w : World} {g : Nat} {a b c : Int} (h : Cbox w g a b c) : g < w.heap.size := by
  rcases Nat.lt_or_ge g w.heap.size with q | q
  · exact q
  · unfold Cbox at h; rw [Array.getElem?_eq_none q] at h; cases h
theorem Cbox.below {w w' : World} {g : Nat} {a b c : Int} (h : Cbox w g a b c) (hb : Below w.heap.size w w') : Cbox w' g a b c := (hb.block g h.lt).trans h
theorem Cbox.put {w : World} {g : Nat} {a b c a' b' c' : Int} (h : Cbox w g a b c) : Cbox (((w.setCell ⟨g, 0, none⟩ (.int .i64 a')).setCell ⟨g, 1, none⟩ (.int .i64 b')).setCell ⟨g, 2, none⟩ (.int .i64 c')) g a' b' c' := by
  have h0 := heap_setCell_at (k := 0) (.int .i64 a') h
  have h1 := heap_setCell_at (k := 1) (.int .i64 b') h0
  exact (heap_setCell_at (k := 2) (.int .i64 c') h1).trans rfl
theorem put3 {w w0 : World} {g B : Nat} {a' b' c' : Value} (h : Below B w0 w) (hB : B ≤ g) : Below B w0 (((w.setCell ⟨g, 0, none⟩ a').setCell ⟨g, 1, none⟩ b').setCell ⟨g, 2, none⟩ c') :=
  ((h.setCell (p := ⟨g, 0, none⟩) hB _).setCell (p := ⟨g, 1, none⟩) hB _).setCell (p := ⟨g, 2, none⟩) hB _

def Rbox (w : World) (g : Nat) (a b : Int) : Prop := w.heap[g]? = some (.cells #[.int .i64 a, .int .i64 b] 175 (0, 0))
theorem Rbox.cells {w : World} {g : Nat} {a b : Int} (h : Rbox w g a b) : w.cell? ⟨g, 0, none⟩ = some (.int .i64 a) ∧ w.cell? ⟨g, 1, none⟩ = some (.int .i64 b) := by
  unfold Rbox at h
  refine ⟨?_, ?_⟩ <;> (unfold World.cell?; rw [h]; rfl)
theorem Rbox.frozen {w : World} {g : Nat} {a b : Int} (h : Rbox w g a b) : w.frozen? ⟨g, 0, none⟩ = false ∧ w.frozen? ⟨g, 1, none⟩ = false := by
  unfold Rbox at h
  refine ⟨?_, ?_⟩ <;> (unfold World.frozen?; rw [h]; rfl)
theorem Rbox.lt {w : World} {g : Nat} {a b : Int} (h : Rbox w g a b) : g < w.heap.size := by
  rcases Nat.lt_or_ge g w.heap.size with q | q
  · exact q
  · unfold Rbox at h; rw [Array.getElem?_eq_none q] at h; cases h
theorem Rbox.below {w w' : World} {g : Nat} {a b : Int} (h : Rbox w g a b) (hb : Below w.heap.size w w') : Rbox w' g a b := (hb.block g h.lt).trans h
theorem Rbox.put {w : World} {g : Nat} {a b a' b' : Int} (h : Rbox w g a b) : Rbox ((w.setCell ⟨g, 0, none⟩ (.int .i64 a')).setCell ⟨g, 1, none⟩ (.int .i64 b')) g a' b' := by
  have h0 := heap_setCell_at (k := 0) (.int .i64 a') h
  exact (heap_setCell_at (k := 1) (.int .i64 b') h0).trans rfl
theorem put2 {w w0 : World} {g B : Nat} {a' b' : Value} (h : Below B w0 w) (hB : B ≤ g) : Below B w0 ((w.setCell ⟨g, 0, none⟩ a').setCell ⟨g, 1, none⟩ b') :=
  (h.setCell (p := ⟨g, 0, none⟩) hB _).setCell (p := ⟨g, 1, none⟩) hB _
end Go.Proofs.YtmjdpfigkojolaaGreatDoor

namespace Go.Proofs.YtmjdpfigkojolaaGreatDoor
open Go.RowKit Go.Maps
set_option maxRecDepth 20000
set_option linter.unusedVariables false

theorem cput {w : World} {g : Nat} {a b c a' b' c' : Int} {o : Obj} (h : Cbox w g a b c) : Cbox ((((w.setCell ⟨g, 0, none⟩ (.int .i64 a')).setCell ⟨g, 1, none⟩ (.int .i64 b')).setCell ⟨g, 2, none⟩ (.int .i64 c')).alloc o) g a' b' c' ∧ Below g w ((((w.setCell ⟨g, 0, none⟩ (.int .i64 a')).setCell ⟨g, 1, none⟩ (.int .i64 b')).setCell ⟨g, 2, none⟩ (.int .i64 c')).alloc o) := by
  have h1 := h.put (a' := a') (b' := b') (c' := c')
  have h2 := h1.lt
  exact ⟨h1.below ((Below.refl _ _).alloc (Nat.le_refl _) _), (put3 (Below.refl _ _) (Nat.le_refl _)).alloc (Nat.le_of_lt h2) _⟩

set_option maxHeartbeats 2000000 in
theorem hcounts {W w : World} {xs : List ((Nat → Nat) × Thing)} (H : Herd W w xs) (i : Nat) {K : Nat → Nat} {g : Nat} {row : List Int} {p : Nat} (hi : xs[i]? = some (K, tr g row p)) :
    Calls Tryz.prog 88 #[.pointer (some ⟨g, 0, none⟩)] w fun e w' => ∃ a b c q : Nat, e = .returned (.tuple #[.agg #[.int .i64 a, .int .i64 b, .int .i64 c], .int .i64 (rcE row p)]) ∧ Herd W w' (xs.set i (K, tr g row q)) ∧ (rcE row p = 0 → q = p + 14 ∧ a = rcL row p ∧ b = rcD row p ∧ c = rcN row p) := by
  have hR : Rp w K g row p := H.rep i _ hi
  have hab := ahead_bound hR.bit p 14
  have hpl := hR.le
  have HLOW := hide H.low
  have hsz := H.bel.size
  have HI := hide hi
  obtain ⟨KB, hbox⟩ := H.box1 (.cells #[.int .i64 0, .int .i64 0, .int .i64 0] 136)
  obtain ⟨wb, hwb⟩ : ∃ wb, w.alloc (.cells #[.int .i64 0, .int .i64 0, .int .i64 0] 136) = wb := ⟨_, rfl⟩
  rw [hwb] at hbox
  have HT := hide (htake hbox i (get_front hi) 14)
  rw [setf hi] at HT
  have HWB := hide hwb
  clear hbox hwb H hi hR
  go_enter Tryz.func88, Tryz.ntmps88
  go_wp2_with fail
  rw [HWB.out]
  refine HT.out.mono ?_
  rintro e w1 ⟨rfl, h1⟩
  have HX := hide h1
  have hbx : Cbox w1 w.heap.size 0 0 0 := h1.tbs
  obtain ⟨c0, c1, c2⟩ := hbx.cells
  obtain ⟨z0, z1, z2⟩ := hbx.frozen
  have HBX := hide hbx
  clear h1 hbx
  by_cases hl : row.length < p + 14
  · have HE : Hid (rcE row p = 70) := by show _ = _; unfold rcE; rw [if_pos hl]
    have e30 : takeE row p 14 = 30 := by unfold takeE; rw [if_pos ⟨by omega, by omega⟩, if_neg (by omega)]
    rw [e30]
    clear hab
    go_wp2
    obtain ⟨wf, hwf⟩ : ∃ wf, (((w1.setCell ⟨w.heap.size, 0, none⟩ (.int .i64 0)).setCell ⟨w.heap.size, 1, none⟩ (.int .i64 0)).setCell ⟨w.heap.size, 2, none⟩ (.int .i64 0)) = wf := ⟨_, rfl⟩
    have hfx : Cbox wf w.heap.size 0 0 0 := by rw [← hwf]; exact HBX.out.put
    have hfb : Below w.heap.size w1 wf := by rw [← hwf]; exact put3 (Below.refl _ _) (Nat.le_refl _)
    rw [hwf]
    obtain ⟨f0, f1, f2⟩ := hfx.cells
    refine bodyPost_ret (v := .tuple #[.agg #[.int .i64 0, .int .i64 0, .int .i64 0], .int .i64 70]) (by simp [results, Tryz.results88, go_sem, f0, f1, f2]) rfl ?_
    exact ⟨0, 0, 0, _, by rw [HE.out]; rfl, HX.out.front.keep (HLOW.out.set HI.out) hsz hfb, fun h => by rw [HE.out] at h; omega⟩
  · obtain ⟨t1, t2, t3⟩ := take_ok (takeOk_of (row := row) (p := p) (n := 14) (by omega) (by omega))
    have HT3 := hide t3
    have t1' : takeE row p 14 = 0 := t1
    have t2' : takeV row p 14 = ahead row p 14 := t2
    rw [t1', t2']
    have hv2 : ahead row p 14 < 16384 := hab.2
    have hv1 := hab.1
    obtain ⟨V, HV⟩ : ∃ V, Hid (V = ahead row p 14) := ⟨_, rfl⟩
    rw [← HV.out] at hv1 hv2 ⊢
    have m1 := u32_31 (v := V) hv1 (by omega)
    have m2 := u32_31 (v := V / 32) (by omega) (by omega)
    obtain ⟨a, ha⟩ := Int.eq_ofNat_of_zero_le (show 0 ≤ V % 32 by omega)
    obtain ⟨b, hb⟩ := Int.eq_ofNat_of_zero_le (show 0 ≤ V / 32 % 32 by omega)
    obtain ⟨c, hc⟩ := Int.eq_ofNat_of_zero_le (show 0 ≤ V / 1024 by omega)
    have HL : Hid (rcL row p = 257 + a) := by show _ = _; unfold rcL; rw [← HV.out, ha]; rfl
    have HD : Hid (rcD row p = 1 + b) := by show _ = _; unfold rcD; rw [← HV.out, hb]; rfl
    have HN : Hid (rcN row p = 4 + c) := by show _ = _; unfold rcN; rw [← HV.out, hc]; rfl
    have ha2 : (a : Int) < 32 := by omega
    have hb2 : (b : Int) < 32 := by omega
    have hc2 : (c : Int) < 16 := by omega
    rw [ha] at m1
    rw [hb] at m2
    have hlt1 := HBX.out.lt
    have HC := hide hc
    clear hab t1 t2 t3 t1' t2' ha hb hc
    by_cases q1 : 286 < 257 + (a : Int)
    · have HE : Hid (rcE row p = 71) := by show _ = _; unfold rcE; rw [if_neg hl, HL.out, HD.out, if_pos (by omega)]
      go_wp2
      obtain ⟨hfx, hfb⟩ := cput (a' := 0) (b' := 0) (c' := 0) (o := .cells #[.int .i64 (257 + (a : Int)), .int .i64 (1 + (b : Int)), .int .i64 (4 + (V / 1024))] 136) HBX.out
      obtain ⟨f0, f1, f2⟩ := hfx.cells
      refine bodyPost_ret (v := .tuple #[.agg #[.int .i64 0, .int .i64 0, .int .i64 0], .int .i64 71]) (by simp [results, Tryz.results88, go_sem, f0, f1, f2]) rfl ?_
      exact ⟨0, 0, 0, _, by rw [HE.out]; rfl, HX.out.front.keep (HLOW.out.set HI.out) hsz hfb, fun h => by rw [HE.out] at h; omega⟩
    by_cases q2 : 30 < 1 + (b : Int)
    · have HE : Hid (rcE row p = 71) := by show _ = _; unfold rcE; rw [if_neg hl, HL.out, HD.out, if_pos (by omega)]
      have q1' : decide (286 < 257 + (a : Int)) = false := decide_eq_false q1
      go_wp2
      obtain ⟨hfx, hfb⟩ := cput (a' := 0) (b' := 0) (c' := 0) (o := .cells #[.int .i64 (257 + (a : Int)), .int .i64 (1 + (b : Int)), .int .i64 (4 + (V / 1024))] 136) HBX.out
      obtain ⟨f0, f1, f2⟩ := hfx.cells
      refine bodyPost_ret (v := .tuple #[.agg #[.int .i64 0, .int .i64 0, .int .i64 0], .int .i64 71]) (by simp [results, Tryz.results88, go_sem, f0, f1, f2]) rfl ?_
      exact ⟨0, 0, 0, _, by rw [HE.out]; rfl, HX.out.front.keep (HLOW.out.set HI.out) hsz hfb, fun h => by rw [HE.out] at h; omega⟩
    · have HE : Hid (rcE row p = 0) := by show _ = _; unfold rcE; rw [if_neg hl, HL.out, HD.out, if_neg (by omega)]
      go_wp2
      obtain ⟨hfx, hfb⟩ := cput (a' := 257 + (a : Int)) (b' := 1 + (b : Int)) (c' := 4 + V / 1024) (o := .cells #[.int .i64 (257 + (a : Int)), .int .i64 (1 + (b : Int)), .int .i64 (4 + (V / 1024))] 136) HBX.out
      obtain ⟨f0, f1, f2⟩ := hfx.cells
      refine bodyPost_ret (v := .tuple #[.agg #[.int .i64 (257 + (a : Int)), .int .i64 (1 + (b : Int)), .int .i64 (4 + V / 1024)], .int .i64 0]) (by simp [results, Tryz.results88, go_sem, f0, f1, f2]) rfl ?_
      exact ⟨257 + a, 1 + b, 4 + c, _, by rw [HE.out, HC.out]; rfl, HX.out.front.keep (HLOW.out.set HI.out) hsz hfb, fun _ => ⟨HT3.out, HL.out.symm, HD.out.symm, HN.out.symm⟩⟩
end Go.Proofs.YtmjdpfigkojolaaGreatDoor

namespace Go.Proofs.YtmjdpfigkojolaaGreatDoor
open Go.RowKit Go.Maps
set_option maxRecDepth 20000
set_option linter.unusedVariables false

theorem nxS_lt {l row : List Int} {p : Nat} (hl : Lens l) (h : nxE l row p = 0) : nxS l row p < l.length := by
  have hfb : fdB l (rowAt row p) = true := by
    unfold nxE at h
    by_cases c : fdB l (rowAt row p) = true
    · exact c
    · rw [if_neg c] at h; omega
  have hs : nxS l row p = fdS l (rowAt row p) := by unfold nxS; rw [if_pos h]
  rw [hs]
  exact (hit_iff.1 (fd_has hl hfb)).1.1

theorem rput {w : World} {g : Nat} {a b a' b' : Int} (h : Rbox w g a b) : Rbox ((w.setCell ⟨g, 0, none⟩ (.int .i64 a')).setCell ⟨g, 1, none⟩ (.int .i64 b')) g a' b' ∧ Below g w ((w.setCell ⟨g, 0, none⟩ (.int .i64 a')).setCell ⟨g, 1, none⟩ (.int .i64 b')) :=
  ⟨h.put, put2 (Below.refl _ _) (Nat.le_refl _)⟩

set_option maxHeartbeats 2000000 in
theorem htrun {W w : World} {xs : List ((Nat → Nat) × Thing)} (H : Herd W w xs) (i j : Nat) {K Kd : Nat → Nat} {g gd : Nat} {C row : List Int} {p : Nat} (hi : xs[i]? = some (K, tr g row p)) (hj : xs[j]? = some (Kd, td gd C)) (h19 : C.length = 19) (T : Tab W) :
    Calls Tryz.prog 114 #[.pointer (some ⟨g, 0, none⟩), .pointer (some ⟨gd, 0, none⟩)] w fun e w' => ∃ (s : Nat) (c : Int) (q : Nat), e = .returned (.tuple #[.agg #[.int .i64 s, .int .i64 c], .int .i64 (trE C row p)]) ∧ w.heap.size ≤ w'.heap.size ∧ Herd W w' (xs.set i (K, tr g row q)) ∧ (trE C row p = 0 → q = trP C row p ∧ s = nxS C row p ∧ c = trC C row p) := by
  have hR : Rp w K g row p := H.rep i _ hi
  have hDd : Dp w Kd gd C := H.rep j _ hj
  have HLN := hide (dcE_zero hDd.ok).1
  have HBT := hide hR.bit
  have HLOW := hide H.low
  have hsz := H.bel.size
  have HI := hide hi
  have HT := hide T
  obtain ⟨KB, hbox⟩ := H.box1 (.cells #[.int .i64 0, .int .i64 0] 175)
  obtain ⟨wb, hwb⟩ : ∃ wb, w.alloc (.cells #[.int .i64 0, .int .i64 0] 175) = wb := ⟨_, rfl⟩
  rw [hwb] at hbox
  have HNX := hide (hnext hbox j i (get_front hj) (get_front hi))
  rw [setf hi] at HNX
  have HWB := hide hwb
  have H19 := hide h19
  clear hbox hwb H hi hR hDd hj T h19
  have HTR : Hid (trE C row p = if nxE C row p ≠ 0 then 70 else if row.length < nxP C row p + frt (nxS C row p : Nat) then 70 else 0) := rfl
  have HTC : Hid (trC C row p = lst (nxS C row p : Nat) + ahead row (nxP C row p) (frt (nxS C row p : Nat))) := rfl
  have HTP : Hid (trP C row p = nxP C row p + frt (nxS C row p : Nat)) := rfl
  have HSL : Hid (nxE C row p = 0 → nxS C row p < 19) := fun h => by have := nxS_lt HLN.out h; rwa [H19.out] at this
  go_enter Tryz.func114, Tryz.ntmps114
  go_wp2_with fail
  rw [HWB.out]
  refine HNX.out.mono ?_
  rintro e w1 ⟨rfl, h1⟩
  have HX := hide h1
  have hbx : Rbox w1 w.heap.size 0 0 := h1.tbs
  obtain ⟨c0, c1⟩ := hbx.cells
  obtain ⟨z0, z1⟩ := hbx.frozen
  have HBX := hide hbx
  have HB1 := hide h1.bel
  clear h1 hbx
  obtain ⟨E, HE⟩ : ∃ E, Hid (E = nxE C row p) := ⟨_, rfl⟩
  obtain ⟨s, HS⟩ : ∃ s, Hid (s = nxS C row p) := ⟨_, rfl⟩
  obtain ⟨p1, HP⟩ : ∃ p1, Hid (p1 = nxP C row p) := ⟨_, rfl⟩
  rw [← HE.out, ← HS.out, ← HP.out] at HTR
  rw [← HS.out, ← HP.out] at HTC HTP
  rw [← HE.out, ← HS.out] at HSL
  rw [← HP.out] at HX
  rw [← HE.out, ← HS.out]
  by_cases e0 : E = 0
  case neg =>
    have e0' : (E != 0) = true := by simpa using e0
    have HF : Hid (trE C row p = 70) := by show _ = _; rw [HTR.out, if_pos e0]
    go_wp2
    obtain ⟨hfx, hfb⟩ := rput (a' := 0) (b' := 0) HBX.out
    obtain ⟨f0, f1⟩ := hfx.cells
    refine bodyPost_ret (v := .tuple #[.agg #[.int .i64 0, .int .i64 0], .int .i64 70]) (by simp [results, Tryz.results114, go_sem, f0, f1]) rfl ?_
    exact ⟨0, 0, _, by rw [HF.out]; rfl, Nat.le_of_lt hfx.lt, HX.out.front.keep (HLOW.out.set HI.out) hsz hfb, fun h => by rw [HF.out] at h; omega⟩
  subst e0
  have hs := HSL.out rfl
  have hs' : (s : Int) < 19 := by omega
  have HTB := hide (HT.out.mono HB1.out)
  have t0 := HTB.out.least s hs
  have t1 := HTB.out.further s hs
  have hF := frt_le (s : Nat)
  have hA := lst_pos (s : Nat)
  obtain ⟨A, HA⟩ : ∃ A, Hid (A = lst s) := ⟨_, rfl⟩
  obtain ⟨F, HFF⟩ : ∃ F, Hid (F = frt s) := ⟨_, rfl⟩
  rw [← HA.out] at t0 hA HTC
  rw [← HFF.out] at t1 hF HTC HTR HTP
  have HTK := hide (htake HX.out i (get_front (getset HI.out)) (F : Nat))
  rw [setf (getset HI.out), List.set_set] at HTK
  have hab := ahead_bound HBT.out p1 F
  have hpw : (2 : Int) ^ F ≤ 128 := by have := pow_le hF; have e : (2 : Int) ^ 7 = 128 := by decide
                                       omega
  clear HSL
  go_wp2_with fail
  refine HTK.out.mono ?_
  rintro e w2 ⟨rfl, h2⟩
  have HX2 := hide h2
  have hbx : Rbox w2 w.heap.size 0 0 := h2.tbs
  have HTB2 := hide (HT.out.mono h2.bel)
  clear c0 c1 z0 z1 t0 t1
  obtain ⟨c0, c1⟩ := hbx.cells
  obtain ⟨z0, z1⟩ := hbx.frozen
  have HBX2 := hide hbx
  have t0 := HTB2.out.least s hs
  rw [← HA.out] at t0
  clear h2 hbx
  by_cases hl : row.length < p1 + F
  · have HF : Hid (trE C row p = 70) := by show _ = _; rw [HTR.out, if_neg (by simp), if_pos hl]
    have e30 : takeE row p1 (F : Nat) = 30 := by unfold takeE; rw [if_pos ⟨by omega, by omega⟩, if_neg (by omega)]
    rw [e30]
    go_wp2
    obtain ⟨hfx, hfb⟩ := rput (a' := 0) (b' := 0) HBX2.out
    obtain ⟨f0, f1⟩ := hfx.cells
    refine bodyPost_ret (v := .tuple #[.agg #[.int .i64 0, .int .i64 0], .int .i64 70]) (by simp [results, Tryz.results114, go_sem, f0, f1]) rfl ?_
    exact ⟨0, 0, _, by rw [HF.out]; rfl, Nat.le_of_lt hfx.lt, HX2.out.front.keep (HLOW.out.set HI.out) hsz hfb, fun h => by rw [HF.out] at h; omega⟩
  · have HF : Hid (trE C row p = 0) := by show _ = _; rw [HTR.out, if_neg (by simp), if_neg hl]
    obtain ⟨t1, t2, t3⟩ := take_ok (takeOk_of (row := row) (p := p1) (n := F) (by omega) (by omega))
    rw [t1, t2]
    rw [t3] at HX2
    obtain ⟨V, HV⟩ : ∃ V, Hid (V = ahead row p1 F) := ⟨_, rfl⟩
    rw [← HV.out] at hab HTC ⊢
    have hv1 := hab.1
    have hv2 : V < 128 := by omega
    clear hab t1 t2 t3
    go_wp2
    obtain ⟨hfx, hfb⟩ := rput (a' := (s : Int)) (b' := A + V) HBX2.out
    obtain ⟨f0, f1⟩ := hfx.cells
    refine bodyPost_ret (v := .tuple #[.agg #[.int .i64 (s : Int), .int .i64 (A + V)], .int .i64 0]) (by simp [results, Tryz.results114, go_sem, f0, f1]) rfl ?_
    exact ⟨s, A + V, _, by rw [HF.out], Nat.le_of_lt hfx.lt, HX2.out.front.keep (HLOW.out.set HI.out) hsz hfb, fun _ => ⟨HTP.out.symm, HS.out, HTC.out.symm⟩⟩
end Go.Proofs.YtmjdpfigkojolaaGreatDoor

namespace Go.Proofs.YtmjdpfigkojolaaGreatDoor
open Go.RowKit Go.Maps
set_option maxRecDepth 20000
set_option linter.unusedVariables false

theorem smC_len19 (row : List Int) (p : Nat) : ∀ n, (smC row p n).length = 19
  | 0 => by simp [smC]
  | n + 1 => by simp [smC, smC_len19 row p n]

set_option maxHeartbeats 4000000 in
theorem hsmall {W w : World} {xs : List ((Nat → Nat) × Thing)} (H : Herd W w xs) (i : Nat) {K : Nat → Nat} {g : Nat} {row : List Int} {p : Nat} (hi : xs[i]? = some (K, tr g row p)) (n : Nat) (hn : n ≤ 19) (O : Odr W) :
    Calls Tryz.prog 89 #[.pointer (some ⟨g, 0, none⟩), .int .i64 n] w fun e w' => (smE row p n ≠ 0 ∧ e = .returned (.tuple #[.pointer none, .int .i64 (smE row p n)]) ∧ ∃ q, Herd W w' (xs.set i (K, tr g row q))) ∨ (smE row p n = 0 ∧ ∃ gd Kd, e = .returned (.tuple #[.pointer (some ⟨gd, 0, none⟩), .int .i64 0]) ∧ Herd W w' (xs.set i (K, tr g row (p + 3 * n)) ++ [(Kd, td gd (smC row p n))])) := by
  have hR : Rp w K g row p := H.rep i _ hi
  have hpl := hR.le.1
  have HBT := hide hR.bit
  have HLOW := hide H.low
  have hsz := H.bel.size
  have HI := hide hi
  have HO := hide O
  have HH := hide H
  clear H hi hR O
  go_enter Tryz.func89, Tryz.ntmps89
  go_wp2_with (at_make; refine wpList_mkI rfl _ _ rfl _ _ _ _ 19 19 rfl rfl rfl rfl (Nat.le_refl _) (by omega) ?_)
  intro w1 hg1 hb1
  have ho1 : OI w1 w.heap.size (.slice (some ⟨w.heap.size, 0, none⟩) 19 19) (smC row p 0) := OI.of_full (l := List.replicate 19 0) (by rw [hg1]; rfl) (Nat.le_refl _) (by unfold maxLen; simp)
  obtain ⟨Kc, hc0⟩ := (HH.out.below hb1).tibs HLOW.out hsz ho1
  have HX0 : Hid (Herd W w1 (xs.set i (K, tr g row (p + 3 * 0)) ++ [(Kc, tib w.heap.size (.slice (some ⟨w.heap.size, 0, none⟩) 19 19) (smC row p 0))])) := by
    have := hc0.same (get_front HI.out)
    rw [setf HI.out] at this
    exact hide this
  clear hg1 hb1 ho1 hc0
  go_wp2
  go_loopw [16] (fun x wr => ∃ (k : Nat) (Kc : Nat → Nat), k ≤ n ∧ x = .int .i64 k ∧ p + 3 * k ≤ row.length ∧ Hid (Herd W wr (xs.set i (K, tr g row (p + 3 * k)) ++ [(Kc, tib w.heap.size (.slice (some ⟨w.heap.size, 0, none⟩) 19 19) (smC row p k))]))) (fun x _ => n - (intOf x).toNat)
  case atStart => exact ⟨0, Kc, Nat.zero_le _, rfl, hpl, HX0⟩
  case round =>
    obtain ⟨k, Kc, hk, rfl, hkl, HX⟩ := hrel
    by_cases hlt : k < n
    · have hlt' : (k : Int) < (n : Int) := by omega
      have HTK := hide (htake HX.out i (get_front (getset HI.out)) 3)
      rw [setf (getset HI.out), List.set_set] at HTK
      have hab := ahead_bound HBT.out (p + 3 * k) 3
      go_wp2_with fail
      refine HTK.out.mono ?_
      rintro e w2 ⟨rfl, h2⟩
      have HX2 := hide h2
      by_cases hl : row.length < p + 3 * k + 3
      · have HF : Hid (smE row p n = 70) := by show _ = _; unfold smE; rw [if_pos (by omega)]
        have e30 : takeE row (p + 3 * k) 3 = 30 := by unfold takeE; rw [if_pos ⟨by omega, by omega⟩, if_neg (by omega)]
        rw [e30]
        clear h2 hab
        go_wp2
        go_ret2
        refine .inl ⟨by rw [HF.out]; decide, by rw [HF.out]; rfl, _, HX2.out.front⟩
      · obtain ⟨t1, t2, t3⟩ := take_ok (takeOk_of (row := row) (p := p + 3 * k) (n := 3) (by omega) (by omega))
        have t1' : takeE row (p + 3 * k) 3 = 0 := t1
        have t2' : takeV row (p + 3 * k) 3 = ahead row (p + 3 * k) 3 := t2
        have t3' : takeP row (p + 3 * k) 3 = p + 3 * (k + 1) := t3.trans (by omega)
        rw [t1', t2']
        rw [t3'] at HX2
        have o1 := (HO.out.mono h2.bel).get k (by omega)
        have o2 := zor_at k (by omega)
        have HST : Hid (smC row p (k + 1) = (smC row p k).set (zor.getD k 0).toNat (ahead row (p + 3 * k) 3)) := rfl
        obtain ⟨V, HV⟩ : ∃ V, Hid (V = ahead row (p + 3 * k) 3) := ⟨_, rfl⟩
        rw [← HV.out] at hab HST ⊢
        have hv1 := hab.1
        have hv2 : V < 8 := hab.2
        obtain ⟨z', hz⟩ : ∃ z', z' = zor.getD k 0 := ⟨_, rfl⟩
        rw [← hz] at o1 o2 HST
        obtain ⟨z, rfl⟩ := Int.eq_ofNat_of_zero_le o2.1
        rw [Int.toNat_natCast] at HST
        have hz19 : (z : Int) < 19 := o2.2
        have hk19 : (k : Int) < 19 := by omega
        obtain ⟨⟨u, hu⟩, hfz, hputS⟩ := HX2.out.tibput (k := z) (by rw [smC_len19]; omega) V
        rw [← HST.out] at hputS
        have HP := hide hputS
        clear h2 hab t1 t2 t3 t1' t2' t3' hz o2 hputS HTK
        go_wp2
        go_roundw
        case rel => exact ⟨k + 1, Kc, by omega, by go_num, by omega, HP⟩
        case measure => simp [intOf]; omega
    · obtain rfl : k = n := by omega
      have hlt' : ¬ (k : Int) < (k : Int) := by omega
      have hsi := (HX.out.tibo _ (get_last _ _)).sb
      have HCK := hide (check_any _ (smC row p k) _ hsi)
      clear hsi
      go_wp2_with fail
      refine HCK.out.mono ?_
      rintro e w2 ⟨rfl, hb2⟩
      have HX2 := hide (HX.out.below hb2)
      have HSE : Hid (smE row p k = if chkS (smC row p k) ≠ 4 then 72 else 0) := by show _ = _; unfold smE; rw [if_neg (by omega)]
      obtain ⟨S, HS⟩ : ∃ S, Hid (S = chkS (smC row p k)) := ⟨_, rfl⟩
      rw [← HS.out] at HSE ⊢
      clear hb2
      by_cases s4 : S = 4
      · subst s4
        have HF : Hid (smE row p k = 0) := by show _ = _; rw [HSE.out]; rfl
        have hdc : dcE (smC row p k) = 0 := by
          have hS := HS.out
          unfold chkS at hS
          by_cases q : Lens (smC row p k)
          · rw [if_pos q] at hS
            refine (dcE_iff _).2 ⟨?_, .inr hS.symm⟩
            unfold chkE
            rw [if_neg (by have := q.1; omega), if_pos q]
          · rw [if_neg q] at hS; omega
        have HDC := hide hdc
        have HND := hide (hdecode HX2.out _ (smC row p k) (HX2.out.tibo _ (get_last _ _)).sb)
        clear hdc
        go_wp2_with fail
        refine HND.out.mono ?_
        rintro e w3 (⟨hne, _⟩ | ⟨_, gd, Kd, rfl, h3⟩)
        · exact absurd HDC.out hne
        have HX3 := hide h3.mid
        clear h3
        go_wp2
        go_ret2
        exact .inr ⟨HF.out, gd, Kd, rfl, HX3.out⟩
      · have s4' : (S != 4) = true := by simpa using s4
        have HF : Hid (smE row p k = 72) := by show _ = _; rw [HSE.out, if_pos s4]
        go_wp2
        go_ret2
        exact .inl ⟨by rw [HF.out]; decide, by rw [HF.out]; rfl, _, HX2.out.front⟩
end Go.Proofs.YtmjdpfigkojolaaGreatDoor

namespace Go.Proofs.YtmjdpfigkojolaaGreatDoor
open Go.RowKit Go.Maps
set_option maxRecDepth 20000
set_option linter.unusedVariables false

def lenV : Value → Nat
  | .slice _ n _ => n
  | _ => 0

theorem tr_bd {C row : List Int} (hb : Bit row) (p : Nat) : 1 ≤ trC C row p ∧ trC C row p ≤ 138 := tr_bound hb p

set_option maxHeartbeats 4000000 in
theorem hlens {W w : World} {xs : List ((Nat → Nat) × Thing)} (H : Herd W w xs) (i j : Nat) (hij : i ≠ j) {K Kd : Nat → Nat} {g gd : Nat} {C row : List Int} {p : Nat} (hi : xs[i]? = some (K, tr g row p)) (hj : xs[j]? = some (Kd, td gd C)) (h19 : C.length = 19) (T : Tab W) (want : Nat) (hw : want ≤ 316) :
    Calls Tryz.prog 90 #[.pointer (some ⟨g, 0, none⟩), .pointer (some ⟨gd, 0, none⟩), .int .i64 want] w fun e w' => ((rl C row want want [] p).1 ≠ 0 ∧ e = .returned (.tuple #[.slice none 0 0, .int .i64 (rl C row want want [] p).1]) ∧ ∃ q, Herd W w' (xs.set i (K, tr g row q))) ∨ ((rl C row want want [] p).1 = 0 ∧ ∃ a c Kl, e = .returned (.tuple #[.slice a (rl C row want want [] p).2.1.length c, .int .i64 0]) ∧ Herd W w' (xs.set i (K, tr g row (rl C row want want [] p).2.2) ++ [(Kl, ti (.slice a (rl C row want want [] p).2.1.length c) (rl C row want want [] p).2.1)])) := by
  have hR : Rp w K g row p := H.rep i _ hi
  have HBT := hide hR.bit
  have HLOW := hide H.low
  have hsz := H.bel.size
  have HI := hide hi
  have HJ := hide hj
  have HT := hide T
  have HH := hide H
  have H19 := hide h19
  have HIJ := hide hij
  obtain ⟨E0, HE0⟩ : ∃ E0, Hid (E0 = rl C row want want [] p) := ⟨_, rfl⟩
  rw [← HE0.out]
  clear H hi hj hR T h19 hij
  go_enter Tryz.func90, Tryz.ntmps90
  go_wp2_with (at_make; refine wpList_mkI rfl _ _ rfl _ _ _ _ 0 want rfl rfl rfl rfl (Nat.zero_le _) (by omega) ?_)
  intro w1 hg1 hb1
  have ho1 : OI w1 w.heap.size (.slice (some ⟨w.heap.size, 0, none⟩) 0 want) [] := ⟨rfl, .inr ⟨w.heap.size, want, _, rfl, Nat.le_refl _, hg1, Nat.zero_le _, by unfold maxLen; omega, by simp, rfl⟩⟩
  obtain ⟨Kl, hc0⟩ := (HH.out.below hb1).tibs HLOW.out hsz ho1
  have hs1 := hb1.size
  have HX0 : Hid (Herd W w1 (xs.set i (K, tr g row p) ++ [(Kl, tib w.heap.size (.slice (some ⟨w.heap.size, 0, none⟩) 0 want) [])])) := by
    have := hc0.same (get_front HI.out)
    rw [setf HI.out] at this
    exact hide this
  clear hg1 hb1 ho1 hc0
  go_wp2
  go_loopw [8] (fun x wr => ∃ (acc : List Int) (q f : Nat) (Kl : Nat → Nat) (a : Option Addr) (c : Nat), x = .slice a acc.length c ∧ acc.length ≤ want ∧ want - acc.length ≤ f ∧ Hid (rl C row want f acc q = E0) ∧ w.heap.size ≤ wr.heap.size ∧ Hid (Herd W wr (xs.set i (K, tr g row q) ++ [(Kl, tib w.heap.size (.slice a acc.length c) acc)]))) (fun x _ => want - lenV x)
  case atStart => exact ⟨[], p, want, Kl, some ⟨w.heap.size, 0, none⟩, want, rfl, Nat.zero_le _, by simp, HE0.out.symm, hs1, HX0⟩
  case round =>
    obtain ⟨acc, q, f, Kl, a, c, rfl, hal, hf, HRL, hws, HX⟩ := hrel
    by_cases hlt : acc.length < want
    · have hlt' : (acc.length : Int) < (want : Int) := by omega
      obtain ⟨f, rfl⟩ : ∃ f', f = f' + 1 := ⟨f - 1, by omega⟩
      have HRU := hide (htrun HX.out i j (get_front (getset HI.out)) (get_front (by rw [List.getElem?_set_ne HIJ.out]; exact HJ.out)) H19.out HT.out)
      have htb := tr_bd (C := C) HBT.out q
      have HST : Hid (E0 = if trE C row q ≠ 0 then (70, [], q) else if nxS C row q = 16 ∧ acc = [] then (73, [], q) else if (want : Int) < acc.length + trC C row q then (74, [], q) else rl C row want f (lay acc ((nxS C row q : Nat), trC C row q)) (trP C row q)) := by
        show _ = _
        rw [← HRL.out, rl, if_pos hlt]
      clear HRL
      go_wp2_with fail
      refine HRU.out.mono ?_
      rintro e w2 ⟨s, cc, q2, rfl, hws2, h2, hok⟩
      rw [setf (getset HI.out), List.set_set] at h2
      have HX2 := hide h2
      have HOK := hide hok
      obtain ⟨E, HE⟩ : ∃ E, Hid (E = trE C row q) := ⟨_, rfl⟩
      rw [← HE.out] at HST HOK ⊢
      clear hok h2 HRU
      by_cases e0 : E = 0
      case neg =>
        have e0' : (E != 0) = true := by simpa using e0
        have HF : Hid (E0 = (70, [], q)) := by show _ = _; rw [HST.out, if_pos e0]
        have HE70 : Hid (E = 70) := by
          show _ = _
          rw [HE.out]
          have h := HE.out
          unfold trE at h ⊢
          by_cases c1 : nxE C row q ≠ 0
          · rw [if_pos c1]
          · rw [if_neg c1] at h ⊢
            by_cases c2 : row.length < nxP C row q + frt (nxS C row q : Nat)
            · rw [if_pos c2]
            · rw [if_neg c2] at h; exact absurd h e0
        have HN := hide (HX2.out.front.below ((Below.refl _ _).alloc (Nat.le_refl _) (.cells #[.int .i64 s, .int .i64 cc] 175)))
        go_wp2
        go_ret2
        rw [HF.out]
        refine .inl ⟨by show (70 : Int) ≠ 0; decide, by rw [HE70.out]; rfl, _, HN.out⟩
      subst e0
      obtain ⟨ok1, ok2, ok3⟩ := HOK.out rfl
      subst ok1
      rw [← ok2, ← ok3] at HST
      rw [← ok3] at htb
      clear ok2 ok3 HOK
      have h1 := htb.1
      have h2 := htb.2
      obtain ⟨cn, rfl⟩ := Int.eq_ofNat_of_zero_le (show 0 ≤ cc by omega)
      obtain ⟨wx, hwx⟩ : ∃ wx, w2.alloc (.cells #[.int .i64 s, .int .i64 cn] 175) = wx := ⟨_, rfl⟩
      have hbw : Below w2.heap.size w2 wx := by rw [← hwx]; exact (Below.refl _ _).alloc (Nat.le_refl _) _
      have hrb : Rbox wx w2.heap.size s cn := by rw [← hwx]; exact heap_alloc_new w2 _
      obtain ⟨x0, x1⟩ := hrb.cells
      have HN := hide (HX2.out.below hbw)
      have hws3 := hbw.size
      have HWX := hide hwx
      clear hbw hrb hwx htb
      by_cases c16 : s = 16 ∧ acc = []
      · obtain ⟨e16, eacc⟩ := c16
        have HF : Hid (E0 = (73, [], q)) := by show _ = _; rw [HST.out, if_neg (by simp), if_pos ⟨e16, eacc⟩]
        have g1 : ((s : Int) == 16) = true := by simp; omega
        have g2 : ((acc.length : Int) == 0) = true := by rw [eacc]; rfl
        clear e16 eacc
        go_wp2
        rw [HWX.out]
        go_ret2
        rw [HF.out]
        exact .inl ⟨by show (73 : Int) ≠ 0; decide, rfl, _, HN.out.front⟩
      · have HST2 : Hid (E0 = if (want : Int) < acc.length + (cn : Int) then (74, [], q) else rl C row want f (lay acc ((s : Nat), (cn : Int))) (trP C row q)) := by show _ = _; rw [HST.out, if_neg (by simp), if_neg c16]
        have n16 : s = 16 → 0 < acc.length := fun h => by
          rcases Nat.eq_zero_or_pos acc.length with z | z
          · exact absurd ⟨h, List.eq_nil_of_length_eq_zero z⟩ c16
          · exact z
        have HN16 := hide n16
        have gd : ((s : Int) == 16) = false ∨ (((s : Int) == 16) = true ∧ ((acc.length : Int) == 0) = false) := by
          by_cases h : s = 16
          · exact .inr ⟨by simp; omega, beq_eq_false_iff_ne.2 (by have := n16 h; omega)⟩
          · exact .inl (by simp; omega)
        clear n16 c16
        have hwr : IntKind.i64.wrap ((acc.length : Int) + (cn : Int)) = (acc.length : Int) + (cn : Int) := by rw [IntKind.wrap_i64]; omega
        by_cases hov : (want : Int) < (acc.length : Int) + (cn : Int)
        · have HF : Hid (E0 = (74, [], q)) := by show _ = _; rw [HST2.out, if_pos hov]
          rcases gd with g1 | ⟨g1, g2⟩
          all_goals
            go_wp2
            rw [HWX.out]
            go_ret2
            rw [HF.out]
            exact .inl ⟨by show (74 : Int) ≠ 0; decide, rfl, _, HN.out.front⟩
        · have HF : Hid (E0 = rl C row want f (lay acc ((s : Nat), (cn : Int))) (trP C row q)) := by show _ = _; rw [HST2.out, if_neg hov]
          have hBs : w.heap.size ≤ wx.heap.size := by omega
          have HLY := hide (layr_any (.slice a acc.length c) acc (s : Int) cn wx w.heap.size (HN.out.tibo _ (get_last _ _)) hBs (fun h => HN16.out (by omega)) (by omega) (by omega))
          rcases gd with g1 | ⟨g1, g2⟩
          all_goals
            go_wp2_with fail
            rw [HWX.out]
            refine HLY.out.mono ?_
            rintro e w3 ⟨u', rfl, ho3, hb3⟩
            obtain ⟨a3, c3, rfl⟩ := ho3.shape
            obtain ⟨K3, h3⟩ := (HN.out.front.keep (HLOW.out.set HI.out) hsz hb3).tibs (HLOW.out.set HI.out) hsz ho3
            have HX3 := hide h3
            have hws4 := hb3.size
            clear h3 ho3 hb3
            have hll : (lay acc ((s : Int), (cn : Int))).length = acc.length + cn := by rw [lay_len]; rfl
            go_wp2
            go_roundw
            case rel => exact ⟨lay acc ((s : Int), (cn : Int)), trP C row q, f, K3, a3, c3, by rw [hll], by omega, by omega, HF.out.symm, by omega, HX3⟩
            case measure => simp only [lenV]; omega
    · have hlt' : ¬ (acc.length : Int) < (want : Int) := by omega
      have HF : Hid (E0 = (0, acc, q)) := by
        show _ = _
        rw [← HRL.out]
        cases f with
        | zero => rfl
        | succ f => rw [rl, if_neg hlt]
      have HN := hide HX.out.tibi
      go_wp2
      go_ret2
      rw [HF.out]
      exact .inr ⟨rfl, a, c, rfl, Kl, HN.out⟩
end Go.Proofs.YtmjdpfigkojolaaGreatDoor

