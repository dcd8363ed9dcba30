import Derived.Test.YtfoglaajnlbnbaaGreatDoorG27Vd2
import Derived.Test.YtfoglaajnlbnbaaGreatDoorG26Dcd
import Derived.Test.YtfoglaajnlbnbaaGreatDoorG31Spl
import Derived.Test.YtfoglaajnlbnbaaGreatDoorG22Mk5
import Derived.Test.YtfoglaajnlbnbaaGreatDoorG28Ms5
import Derived.Test.YtfoglaajnlbnbaaGreatDoorG29Wr5
import Derived.Test.YtfoglaajnlbnbaaGreatDoorG19Fxc
import Derived.Test.YtfoglaajnlbnbaaGreatDoorG03Lsk
import Derived.Test.YtfoglaajnlbnbaaGreatDoorG30HerdJ
import Derived.Test.YtfoglaajnlbnbaaGreatDoorG23Drr
namespace Go.Proofs.YtfoglaajnlbnbaaGreatDoor
open Go.RowKit Go.Maps
set_option maxRecDepth 20000
set_option linter.unusedVariables false

theorem getset {α : Type} {xs : List α} {i : Nat} {a b : α} (h : xs[i]? = some a) : (xs.set i b)[i]? = some b := by
  rw [List.getElem?_set_self', h]
  rfl

theorem Herd.same {W w : World} {xs : List ((Nat → Nat) × Thing)} (H : Herd W w xs) {i : Nat} {a : (Nat → Nat) × Thing} (h : xs[i]? = some a) : Herd W w (xs.set i a) := by
  have e : xs.set i a = xs := by
    apply List.ext_getElem?
    intro n
    rw [List.getElem?_set]
    by_cases c : i = n
    · subst c
      rw [if_pos rfl, h, if_pos (List.getElem?_eq_some_iff.1 h).1]
    · rw [if_neg c]
  rw [e]
  exact H

theorem Herd.front {W w : World} {xs : List ((Nat → Nat) × Thing)} {x : (Nat → Nat) × Thing} (h : Herd W w (xs ++ [x])) : Herd W w xs := by
  have up : ∀ (i : Nat) d, xs[i]? = some d → (xs ++ [x])[i]? = some d := fun i d hd => by
    rw [List.getElem?_append_left (List.getElem?_eq_some_iff.1 hd).1]; exact hd
  exact ⟨h.bel, fun i d hd => h.rep i d (up i d hd), fun i d hd => h.up i d (up i d hd), fun i j d e hd he => h.sep i j d e (up i d hd) (up j e he)⟩

theorem setf {α : Type} {xs : List α} {i : Nat} {a b x : α} (h : xs[i]? = some a) : (xs ++ [x]).set i b = xs.set i b ++ [x] := List.set_append_left _ _ (List.getElem?_eq_some_iff.1 h).1

theorem get_front {α : Type} {xs : List α} {i : Nat} {a x : α} (h : xs[i]? = some a) : (xs ++ [x])[i]? = some a := by
  rw [List.getElem?_append_left (List.getElem?_eq_some_iff.1 h).1]; exact h

theorem get_last {α : Type} (xs : List α) (x : α) : (xs ++ [x])[xs.length]? = some x := by simp

def Low (N : Nat) (xs : List ((Nat → Nat) × Thing)) : Prop := ∀ (i : Nat) (d : (Nat → Nat) × Thing), xs[i]? = some d → ∀ k, d.1 k ≠ 0 → k < N

theorem Herd.low {W w : World} {xs : List ((Nat → Nat) × Thing)} (H : Herd W w xs) : Low w.heap.size xs := fun i d hd k hk => d.2.sup (H.rep i d hd) k hk

theorem Low.set {N : Nat} {xs : List ((Nat → Nat) × Thing)} (h : Low N xs) {i : Nat} {K : Nat → Nat} {x y : Thing} (hi : xs[i]? = some (K, x)) : Low N (xs.set i (K, y)) := fun j d hd k hk => by
  rcases get_set hd with ⟨_, hd⟩ | ⟨_, rfl⟩
  · exact h j d hd k hk
  · exact h i _ hi k hk

theorem Herd.keep {W w w' : World} {xs : List ((Nat → Nat) × Thing)} (H : Herd W w xs) {N : Nat} (hN : Low N xs) (hW : W.heap.size ≤ N) (hb : Below N w w') : Herd W w' xs :=
  ⟨H.bel.trans (hb.mono hW), fun i d hd => d.2.far (H.rep i d hd) hb.size fun k hk => hb.block k (hN i d hd k hk), H.up, H.sep⟩

def tib (B : Nat) (v : Value) (l : List Int) : Thing :=
  ⟨fun w K => OI w B v l ∧ (∀ k, v.ownBlock = some k → K k ≠ 0) ∧ ∀ k, K k ≠ 0 → k < w.heap.size,
   fun h a b => ⟨h.1.move fun k hk => b k (h.2.1 k hk), h.2.1, fun k hk => Nat.lt_of_lt_of_le (h.2.2 k hk) a⟩, fun h => h.2.2⟩

theorem Herd.tibs {W w : World} {xs : List ((Nat → Nat) × Thing)} (H : Herd W w xs) {B : Nat} (hN : Low B xs) (hW : W.heap.size ≤ B) {v : Value} {l : List Int} (ho : OI w B v l) : ∃ K, Herd W w (xs ++ [(K, tib B v l)]) := by
  refine ⟨fun k => if v.ownBlock = some k then 1 else 0, H.bel, fun i d hd => ?_, fun i d hd k hk => ?_, fun i j d e hd he hij k hk => ?_⟩
  · rcases get_snoc hd with hd | ⟨_, rfl⟩
    · exact H.rep i d hd
    · refine ⟨ho, fun k hk => by simp [hk], fun k hk => ?_⟩
      by_cases e : v.ownBlock = some k
      · exact (ho.lt k e).2
      · simp [e] at hk
  · rcases get_snoc hd with hd | ⟨_, rfl⟩
    · exact H.up i d hd k hk
    · by_cases e : v.ownBlock = some k
      · have := (ho.lt k e).1; omega
      · simp [e] at hk
  · rcases get_snoc hd with hd | ⟨e1, rfl⟩
    · rcases get_snoc he with he | ⟨e2, rfl⟩
      · exact H.sep i j d e hd he hij k hk
      · have h1 := hN i d hd k hk
        by_cases q : v.ownBlock = some k
        · have := (ho.lt k q).1; omega
        · simp [q]
    · rcases get_snoc he with he | ⟨e2, rfl⟩
      · by_cases q : v.ownBlock = some k
        · have h2 := (ho.lt k q).1
          by_cases z : e.1 k = 0
          · exact z
          · have := hN j e he k z; omega
        · simp [q] at hk
      · omega

theorem Herd.mid {W w : World} {xs : List ((Nat → Nat) × Thing)} {y z : (Nat → Nat) × Thing} (H : Herd W w (xs ++ [y] ++ [z])) : Herd W w (xs ++ [z]) := by
  have f1 : ∀ (i : Nat) d, (xs ++ [z])[i]? = some d → (xs ++ [y] ++ [z])[if i < xs.length then i else i + 1]? = some d := fun i d hd => by
    by_cases c : i < xs.length
    · rw [if_pos c, List.append_assoc, List.getElem?_append_left c]
      rwa [List.getElem?_append_left c] at hd
    · rw [if_neg c, List.getElem?_append_right (by simp; omega)]
      rw [List.getElem?_append_right (by omega)] at hd
      rw [← hd]
      congr 1
      simp
  exact ⟨H.bel, fun i d hd => H.rep _ d (f1 i d hd), fun i d hd => H.up _ d (f1 i d hd), fun i j d e hd he hij => H.sep _ _ d e (f1 i d hd) (f1 j e he) (by split <;> split <;> omega)⟩

theorem Herd.tibput {W w : World} {xs : List ((Nat → Nat) × Thing)} {B b n c : Nat} {K : Nat → Nat} {l : List Int} (H : Herd W w (xs ++ [(K, tib B (.slice (some ⟨b, 0, none⟩) n c) l)])) {k : Nat} (hk : k < l.length) (m : Int) :
    (∃ u, w.cell? ⟨b, k, none⟩ = some u) ∧ w.frozen? ⟨b, k, none⟩ = false ∧ Herd W (w.setCell ⟨b, k, none⟩ (.int .i64 m)) (xs ++ [(K, tib B (.slice (some ⟨b, 0, none⟩) n c) (l.set k m))]) := by
  have h : (tib B (.slice (some ⟨b, 0, none⟩) n c) l).P w K := H.rep xs.length _ (get_last _ _)
  obtain ⟨g, c', hv, h1, h2, h3⟩ := h.1.put hk m
  simp only [Value.slice.injEq, Option.some.injEq, Addr.mk.injEq, and_true] at hv
  obtain ⟨rfl, -, -⟩ := hv
  have hg : K b ≠ 0 := h.2.1 b rfl
  have h4 := H.op xs.length (get_last _ _) (x' := tib B (.slice (some ⟨b, 0, none⟩) n c) (l.set k m)) (K' := K) ⟨h3, h.2.1, fun k hk => by rw [size_setCell]; exact h.2.2 k hk⟩ ⟨rfl, rfl, rfl, by rw [size_setCell]; exact Nat.le_refl _, fun q _ h0 => setCell_others _ _ _ _ _ (fun e => hg (by rw [← e]; exact h0)), fun _ _ => rfl⟩
  rw [show (xs ++ [(K, tib B (.slice (some ⟨b, 0, none⟩) n c) l)]).set xs.length (K, tib B (.slice (some ⟨b, 0, none⟩) n c) (l.set k m)) = xs ++ [(K, tib B (.slice (some ⟨b, 0, none⟩) n c) (l.set k m))] by simp] at h4
  exact ⟨h1, h2, h4⟩

theorem Herd.tibo {W w : World} {xs : List ((Nat → Nat) × Thing)} (H : Herd W w xs) (i : Nat) {B : Nat} {K : Nat → Nat} {v : Value} {l : List Int} (hi : xs[i]? = some (K, tib B v l)) : OI w B v l := by
  have h : (tib B v l).P w K := H.rep i _ hi
  exact h.1

theorem Herd.tibi {W w : World} {xs : List ((Nat → Nat) × Thing)} {B : Nat} {K : Nat → Nat} {v : Value} {l : List Int} (H : Herd W w (xs ++ [(K, tib B v l)])) : Herd W w (xs ++ [(K, ti v l)]) := by
  have hp : (tib B v l).P w K := H.rep xs.length _ (get_last _ _)
  refine ⟨H.bel, fun i d hd => ?_, fun i d hd => ?_, fun i j d e hd he hij => ?_⟩
  · rcases get_snoc hd with q | ⟨_, rfl⟩
    · exact H.rep i d (get_front q)
    · exact ⟨hp.1.base (Nat.zero_le _), hp.2⟩
  · rcases get_snoc hd with q | ⟨e, rfl⟩
    · exact H.up i d (get_front q)
    · exact H.up i (K, tib B v l) (by rw [e]; exact get_last _ _)
  · rcases get_snoc hd with q | ⟨e1, rfl⟩
    · rcases get_snoc he with q2 | ⟨e2, rfl⟩
      · exact H.sep i j d e (get_front q) (get_front q2) hij
      · exact H.sep i j d (K, tib B v l) (get_front q) (by rw [e2]; exact get_last _ _) hij
    · rcases get_snoc he with q2 | ⟨e2, rfl⟩
      · exact H.sep i j (K, tib B v l) e (by rw [e1]; exact get_last _ _) (get_front q2) hij
      · omega

theorem Herd.box1 {W w : World} {xs : List ((Nat → Nat) × Thing)} (h : Herd W w xs) (o : Obj) : ∃ K, Herd W (w.alloc o) (xs ++ [(K, tb w.heap.size o)]) := by
  refine ⟨fun k => if k = w.heap.size then 1 else 0, h.push ((Below.refl _ _).alloc (Nat.le_refl _) _) ⟨heap_alloc_new w _, by simp, fun k hk => ?_⟩ fun k hk => ?_⟩
  · by_cases e : k = w.heap.size
    · subst e; simp
    · simp [e] at hk
  · by_cases e : k = w.heap.size
    · omega
    · simp [e] at hk

theorem Herd.tbs {W w : World} {xs : List ((Nat → Nat) × Thing)} {K : Nat → Nat} {g : Nat} {o : Obj} (h : Herd W w (xs ++ [(K, tb g o)])) : w.heap[g]? = some o := by
  have hp : (tb g o).P w K := h.rep xs.length _ (get_last _ _)
  exact hp.1

theorem u32_31 {v : Int} (h0 : 0 ≤ v) (h1 : v < 4294967296) : bits .and .u32 v 31 = v % 32 := by
  have := bits_mask .u32 32 (by decide) (fun n a b => by rw [IntKind.wrap_u32]; omega) 5 (by decide) v h0 (by omega)
  simpa using this

def Cbox (w : World) (g : Nat) (a b c : Int) : Prop := w.heap[g]? = some (.cells #[.int .i64 a, .int .i64 b, .int .i64 c] 210 (0, 0))
theorem Cbox.cells {w : World} {g : Nat} {a b c : Int} (h : Cbox w g a b c) : w.cell? ⟨g, 0, none⟩ = some (.int .i64 a) ∧ w.cell? ⟨g, 1, none⟩ = some (.int .i64 b) ∧ w.cell? ⟨g, 2, none⟩ = some (.int .i64 c) := by
  unfold Cbox at h
  refine ⟨?_, ?_, ?_⟩ <;> (unfold World.cell?; rw [h]; rfl)
theorem Cbox.frozen {w : World} {g : Nat} {a b c : Int} (h : Cbox w g a b c) : w.frozen? ⟨g, 0, none⟩ = false ∧ w.frozen? ⟨g, 1, none⟩ = false ∧ w.frozen? ⟨g, 2, none⟩ = false := by
  unfold Cbox at h
  refine ⟨?_, ?_, ?_⟩ <;> (unfold World.frozen?; rw [h]; rfl)
theorem Cbox.lt {w : World} {g : Nat} {a b c : Int} (h : Cbox w g a b c) : g < w.heap.size := by
  rcases Nat.lt_or_ge g w.heap.size with q | q
  · exact q
  · unfold Cbox at h; rw [Array.getElem?_eq_none q] at h; cases h
theorem Cbox.below {w w' : World} {g : Nat} {a b c : Int} (h : Cbox w g a b c) (hb : Below w.heap.size w w') : Cbox w' g a b c := (hb.block g h.lt).trans h
theorem Cbox.put {w : World} {g : Nat} {a b c a' b' c' : Int} (h : Cbox w g a b c) : Cbox (((w.setCell ⟨g, 0, none⟩ (.int .i64 a')).setCell ⟨g, 1, none⟩ (.int .i64 b')).setCell ⟨g, 2, none⟩ (.int .i64 c')) g a' b' c' := by
  have h0 := heap_setCell_at (k := 0) (.int .i64 a') h
  have h1 := heap_setCell_at (k := 1) (.int .i64 b') h0
  exact (heap_setCell_at (k := 2) (.int .i64 c') h1).trans rfl
theorem put3 {w w0 : World} {g B : Nat} {a' b' c' : Value} (h : Below B w0 w) (hB : B ≤ g) : Below B w0 (((w.setCell ⟨g, 0, none⟩ a').setCell ⟨g, 1, none⟩ b').setCell ⟨g, 2, none⟩ c') :=
  ((h.setCell (p := ⟨g, 0, none⟩) hB _).setCell (p := ⟨g, 1, none⟩) hB _).setCell (p := ⟨g, 2, none⟩) hB _

def Rbox (w : World) (g : Nat) (a b : Int) : Prop := w.heap[g]? = some (.cells #[.int .i64 a, .int .i64 b] 182 (0, 0))
theorem Rbox.cells {w : World} {g : Nat} {a b : Int} (h : Rbox w g a b) : w.cell? ⟨g, 0, none⟩ = some (.int .i64 a) ∧ w.cell? ⟨g, 1, none⟩ = some (.int .i64 b) := by
  unfold Rbox at h
  refine ⟨?_, ?_⟩ <;> (unfold World.cell?; rw [h]; rfl)
theorem Rbox.frozen {w : World} {g : Nat} {a b : Int} (h : Rbox w g a b) : w.frozen? ⟨g, 0, none⟩ = false ∧ w.frozen? ⟨g, 1, none⟩ = false := by
  unfold Rbox at h
  refine ⟨?_, ?_⟩ <;> (unfold World.frozen?; rw [h]; rfl)
theorem Rbox.lt {w : World} {g : Nat} {a b : Int} (h : Rbox w g a b) : g < w.heap.size := by
  rcases Nat.lt_or_ge g w.heap.size with q | q
  · exact q
  · unfold Rbox at h; rw [Array.getElem?_eq_none q] at h; cases h
theorem Rbox.below {w w' : World} {g : Nat} {a b : Int} (h : Rbox w g a b) (hb : Below w.heap.size w w') : Rbox w' g a b := (hb.block g h.lt).trans h
theorem Rbox.put {w : World} {g : Nat} {a b a' b' : Int} (h : Rbox w g a b) : Rbox ((w.setCell ⟨g, 0, none⟩ (.int .i64 a')).setCell ⟨g, 1, none⟩ (.int .i64 b')) g a' b' := by
  have h0 := heap_setCell_at (k := 0) (.int .i64 a') h
  exact (heap_setCell_at (k := 1) (.int .i64 b') h0).trans rfl
theorem put2 {w w0 : World} {g B : Nat} {a' b' : Value} (h : Below B w0 w) (hB : B ≤ g) : Below B w0 ((w.setCell ⟨g, 0, none⟩ a').setCell ⟨g, 1, none⟩ b') :=
  (h.setCell (p := ⟨g, 0, none⟩) hB _).setCell (p := ⟨g, 1, none⟩) hB _
end Go.Proofs.YtfoglaajnlbnbaaGreatDoor

namespace Go.Proofs.YtfoglaajnlbnbaaGreatDoor
open Go.RowKit Go.Maps
set_option maxRecDepth 20000
set_option linter.unusedVariables false

noncomputable def wrE (l d row : List Int) : Int := if mkE l d ≠ 0 then mkE l d else joinE row (mkB l d)
noncomputable def wrR (l d row : List Int) : List Int := if mkE l d ≠ 0 then row else joinRow row (mkB l d)

set_option maxHeartbeats 2000000 in
theorem hwrite {W w : World} {xs : List ((Nat → Nat) × Thing)} (H : Herd W w xs) (i : Nat) {K : Nat → Nat} {g : Nat} {row : List Int} (hi : xs[i]? = some (K, tw g row)) (v1 v2 : Value) (l d : List Int) (s1 : SI w v1 l) (s2 : SI w v2 d) (T : Tab W) (O : Odr W) :
    Calls Tryz.prog 63 #[.pointer (some ⟨g, 0, none⟩), v1, v2] w fun e w' => e = .returned (.int .i64 (wrE l d row)) ∧ ∃ K', Herd W w' (xs.set i (K', tw g (wrR l d row))) := by
  have HH := hide H
  have HI := hide hi
  have HMK := hide (make_any v1 v2 l d w s1 s2 (T.mono H.bel) (O.mono H.bel))
  have HT := hide T
  have HO := hide O
  obtain ⟨a1, c1, rfl, -, -⟩ := s1.open
  obtain ⟨a2, c2, rfl, -, -⟩ := s2.open
  clear H hi s1 s2 T O
  go_enter Tryz.func63, Tryz.ntmps63
  go_wp2_with fail
  refine HMK.out.mono ?_
  rintro e w1 ⟨hyn, b1⟩
  have H1 := hide (HH.out.below b1)
  rcases hyn with ⟨hne, hno⟩ | ⟨h0, vL, vD, vC, vR, rfl, hmk⟩
  · unfold MkNo at hno
    subst hno
    have HF : Hid (wrE l d row = mkE l d ∧ wrR l d row = row) := ⟨if_pos hne, if_pos hne⟩
    have g0 : (mkE l d != 0) = true := by simpa using hne
    clear b1
    go_wp2
    go_ret
    rw [HF.out.1, HF.out.2]
    exact ⟨rfl, K, (H1.out.below ((Below.refl _ _).alloc (Nat.le_refl _) _)).same HI.out⟩
  · obtain ⟨aL, cL, rfl⟩ := hmk.l.shape
    obtain ⟨aD, cD, rfl⟩ := hmk.d.shape
    obtain ⟨aC, cC, rfl⟩ := hmk.c.shape
    obtain ⟨aR, cR, rfl, hr1, hr2⟩ := hmk.r.shape
    have HMK2 := hide hmk
    obtain ⟨wb, hwb⟩ : ∃ wb, w1.alloc (.cells #[.slice aL (mkL l).length cL, .slice aD (mkD d).length cD, .slice aC (mkC l d).length cC, .slice aR (mkR l d).length cR, .int .i64 (mkZ l d)] 129) = wb := ⟨_, rfl⟩
    have hb0 : Below w1.heap.size w1 wb := by rw [← hwb]; exact (Below.refl _ _).alloc (Nat.le_refl _) _
    have hbx : Hbox wb w1.heap.size (.slice aL (mkL l).length cL) (.slice aD (mkD d).length cD) (.slice aC (mkC l d).length cC) (.slice aR (mkR l d).length cR) (.int .i64 (mkZ l d)) := by rw [← hwb]; exact heap_alloc_new w1 _
    have H2 := hide (H1.out.below hb0)
    have hmk2 := hmk.below hb0
    obtain ⟨f1, f2, f3, f4, f5, f6, f7, f8, f9, f10⟩ := mk_facts h0
    obtain ⟨k1, k2, k3, k4, k5⟩ := mk_small h0
    have HSP := hide (spell_any aL aD aC aR cL cD cC cR (mkZ l d) (mkL l) (mkD d) (mkC l d) (mkR l d) wb hmk2.c.sb hmk2.r.sr (HT.out.mono H2.out.bel) (HO.out.mono H2.out.bel) k1 k2 f8 k3 (dc_bk k5) f9 f3 f4 f5 f6)
    have HF : Hid (wrE l d row = joinE row (mkB l d) ∧ wrR l d row = joinRow row (mkB l d)) := ⟨if_neg (by simp [h0]), if_neg (by simp [h0])⟩
    have HWB := hide hwb
    obtain ⟨x0, x1, x2, x3, x4⟩ := hbx.cells
    clear hwb hb0 hbx hmk2 hmk f1 f2 f3 f4 f5 f6 f7 f8 f9 f10 k1 k2 k3 k4 k5 h0 b1
    go_wp2_with fail
    rw [HWB.out]
    refine HSP.out.mono ?_
    rintro e w2 ⟨gx, Kx, rfl, hwp, hup, hbl⟩
    have H3 := hide (H2.out.push hbl (x := tw gx (mkB l d)) hwp hup)
    have HJ := hide (hjoin H3.out i xs.length (get_front HI.out) (get_last _ _) (by have := (List.getElem?_eq_some_iff.1 HI.out).1; omega))
    clear hwp hup hbl
    go_wp2_with fail
    refine HJ.out.mono ?_
    rintro e w3 ⟨rfl, K', H4⟩
    rw [setf HI.out] at H4
    have HH4 := hide H4.front
    clear H4
    go_wp2
    go_ret
    rw [HF.out.1, HF.out.2]
    exact ⟨rfl, K', HH4.out⟩
end Go.Proofs.YtfoglaajnlbnbaaGreatDoor

namespace Go.Proofs.YtfoglaajnlbnbaaGreatDoor
open Go.RowKit Go.Maps
set_option maxRecDepth 20000
set_option linter.unusedVariables false
set_option linter.unusedSimpArgs false

theorem put_is {row : List Int} {v n : Int} (h0 : 0 ≤ n) (h1 : n ≤ 32) (hv : v < 2 ^ n.toNat) (hr : (row.length : Int) + n ≤ 268435456) : putRow row v n = row ++ bts v n.toNat := if_pos ⟨⟨⟨h0, h1⟩, hv⟩, hr⟩

theorem bod_le {P Q : List Int} (hP : ∀ i, 0 ≤ P.getD i 0 ∧ P.getD i 0 ≤ 15) (hQ : ∀ i, 0 ≤ Q.getD i 0 ∧ Q.getD i 0 ≤ 15) : ∀ (R : List Tk), (∀ t ∈ R, Snd t ∧ Bt t) → (bodB P Q R).length ≤ 48 * R.length
  | [], _ => by simp [bodB]
  | t :: R, h => by
    have ht := h t (List.mem_cons_self ..)
    have ih := bod_le hP hQ R fun x hx => h x (List.mem_cons_of_mem _ hx)
    have e : bodB P Q (t :: R) = tokB P Q t ++ bodB P Q R := rfl
    have hl := tokB_len hP hQ ht.1 ht.2
    have hz : tokZ P Q t ≤ 48 := by
      unfold tokZ
      have h1 := lsb_bd hP (litS_in ht.1 ht.2).1
      have h2 := hQ (dsy t.2.1.toNat)
      split
      · omega
      · rename_i c
        have h3 := (dfLe _ (dsy_in ht.1 c)).1
        omega
    rw [e, List.length_append, List.length_cons]
    omega

theorem lsy_bitsW {x i : Nat} (h : Lsy x i) (hx : x ≤ 258) : x - LB i < 2 ^ LF i := by
  by_cases hx8 : x < 258
  · obtain ⟨_, _, h3⟩ := lsy_step (j := i) h hx8 (Nat.le_refl _)
    have := h3 rfl
    have := h.2.1
    omega
  · have hi : i = 28 := by
      by_cases q : i = 28
      · exact q
      · have h1 := h.1
        have := h.2.2 28 (by omega) (by omega)
        have h8 : LB 28 = 258 := by decide
        omega
    subst hi
    have h8 : LB 28 = 258 := by decide
    have h9 : 2 ^ LF 28 = 1 := by decide
    omega

theorem dsy_bitsW {x i : Nat} (h : Dsy x i) (hx : x ≤ 32768) : x - DB i < 2 ^ DF i := by
  have h1 := (dsy_step (j := i) h hx (Nat.le_refl _)).2 rfl
  rw [dbNext i h.1] at h1
  have := h.2.1
  omega

def hd3 (k : Int) (f : Bool) : List Int := bts (if f then 1 else 0) 1 ++ bts k 2

theorem hd3_len (k : Int) (f : Bool) : (hd3 k f).length = 3 := by unfold hd3; rw [List.length_append, length_bts, length_bts]

def rawB (l : List Int) (a : Int) : List Int := bts 0 ((13 - a % 8) % 8).toNat ++ bts (l.length : Int) 16 ++ bts (65535 - (l.length : Int)) 16 ++ unpack l

theorem rawB_len (l : List Int) (a : Int) : ((hd3 0 true ++ rawB l a).length : Int) = stz (l.length : Int) a ∧ (hd3 0 false ++ rawB l a).length = (hd3 0 true ++ rawB l a).length := by
  unfold rawB stz
  simp only [List.length_append, hd3_len, length_bts, length_unpack]
  exact ⟨by omega, trivial⟩

noncomputable def hdrB (P Q : List Int) : List Int := if mkE P Q = 0 then mkB P Q else []

theorem hdrB_len (P Q : List Int) : ((hdrB P Q).length : Int) = hzz P Q ∧ (hdrB P Q).length ≤ 10000 := by
  unfold hdrB hzz
  by_cases c : mkE P Q = 0
  · rw [if_pos c, if_pos c]; exact mkB_len10 c
  · rw [if_neg c, if_neg c]; simp

theorem wr_is {P Q row : List Int} (h : row.length ≤ 1000) : wrR P Q row = row ++ hdrB P Q := by
  unfold wrR hdrB
  by_cases c : mkE P Q = 0
  · rw [if_neg (by simp [c]), if_pos c]
    have := (mkB_len10 c).2
    unfold joinRow
    rw [if_neg (by omega)]
  · rw [if_pos c, if_neg c, List.append_nil]

noncomputable def blkB (k : Nat) (f : Bool) (R : List Tk) (l : List Int) (a : Int) : List Int :=
  if k = 0 then hd3 0 f ++ rawB l a
  else if k = 1 then hd3 1 f ++ (bodB (fxL 288) (List.replicate 32 5) R ++ wb (fxL 288) 256)
  else hd3 2 f ++ hdrB (lmL (ctL R) 15) (lmL (ctD R) 15) ++ (bodB (lmL (ctL R) 15) (lmL (ctD R) 15) R ++ wb (lmL (ctL R) 15) 256)

theorem fx_get (s : Nat) : 0 ≤ (fxL 288).getD s 0 ∧ (fxL 288).getD s 0 ≤ 15 ∧ (s < 288 → 1 ≤ (fxL 288).getD s 0) := by
  by_cases c : s < 288
  · have e : (fxL 288).getD s 0 = fxl s := by unfold fxL; simp [List.getD, c]
    rw [e]
    unfold fxl
    split
    · omega
    · split
      · omega
      · split <;> omega
  · rw [List.getD_eq_getElem?_getD, List.getElem?_eq_none (by rw [fxL_len]; omega)]
    exact ⟨Int.le_refl _, by decide, fun h => absurd h c⟩

theorem f5_get (s : Nat) : 0 ≤ (List.replicate 32 (5 : Int)).getD s 0 ∧ (List.replicate 32 (5 : Int)).getD s 0 ≤ 15 ∧ (s < 32 → 1 ≤ (List.replicate 32 (5 : Int)).getD s 0) := by
  rw [List.getD_eq_getElem?_getD, List.getElem?_replicate]
  split
  · simp
  · exact ⟨Int.le_refl _, by decide, fun h => by contradiction⟩

theorem bk_of {l : List Int} (h1 : l.length ≤ 288) (h2 : ∀ i, 0 ≤ l.getD i 0 ∧ l.getD i 0 ≤ 15) (h3 : shp l = 4) : bkE l = 0 := by
  have hl : Lens l := ⟨h1, fun x hx => by
    obtain ⟨i, hi, rfl⟩ := List.getElem_of_mem hx
    have := h2 i
    rw [List.getD_eq_getElem?_getD, List.getElem?_eq_getElem hi] at this
    exact this⟩
  have hck : chkE l = 0 := by unfold chkE; rw [if_neg (by omega), if_pos hl]
  unfold bkE
  rw [if_neg (by simp [hck]), if_neg (by omega), if_neg (by omega)]

theorem fx_code : bkE (fxL 288) = 0 ∧ bkE (List.replicate 32 5) = 0 :=
  ⟨bk_of (by rw [fxL_len]; omega) (fun i => ⟨(fx_get i).1, (fx_get i).2.1⟩) (by decide +kernel), bk_of (by rw [List.length_replicate]; omega) (fun i => ⟨(f5_get i).1, (f5_get i).2.1⟩) (by decide +kernel)⟩

theorem lnI_of {l : List Int} {s : Nat} (hs : s < l.length) (h : 1 ≤ l.getD s 0) : lnI l (s : Int) ≠ 0 := by
  unfold lnI
  rw [if_pos ⟨by omega, by omega⟩]
  unfold ln
  simp only [Int.toNat_natCast]
  omega

theorem fx_wds {R : List Tk} (h : ∀ t ∈ R, Snd t ∧ Bt t) : Wds (fxL 288) (List.replicate 32 5) R := by
  refine ⟨lnI_of (s := 256) (by rw [fxL_len]; omega) ((fx_get 256).2.2 (by omega)), fun t ht => ⟨?_, fun h0 => ?_⟩⟩
  · have := (litS_in (h t ht).1 (h t ht).2).1
    exact lnI_of (by rw [fxL_len]; omega) ((fx_get _).2.2 (by omega))
  · have := dsy_in (h t ht).1 h0
    exact lnI_of (by rw [List.length_replicate]; omega) ((f5_get _).2.2 (by omega))

theorem lmt_at {f : List Int} (hs : Sound f) (hu : (us6 f).length ≤ 2 ^ 15) (i : Nat) : 0 ≤ (lmt f 15).getD i 0 ∧ (lmt f 15).getD i 0 ≤ 15 := by
  have g := gd_lmt (L := 15) hs (by omega) hu
  by_cases c : i < f.length
  · by_cases z : f.getD i 0 = 0
    · rw [g.zero i c z]; omega
    · have := g.ok i (mem_us.2 ⟨c, by have := hs.nn i; omega⟩)
      omega
  · rw [List.getD_eq_getElem?_getD, List.getElem?_eq_none (by rw [g.len]; omega)]
    exact ⟨Int.le_refl _, by decide⟩

end Go.Proofs.YtfoglaajnlbnbaaGreatDoor

namespace Go.Proofs.YtfoglaajnlbnbaaGreatDoor
open Go.RowKit Go.Maps
set_option maxRecDepth 20000
set_option linter.unusedVariables false
set_option linter.unusedSimpArgs false

theorem at_l0 {α : Type} (xs : List α) (a : α) (r : List α) : (xs ++ a :: r)[xs.length]? = some a := by simp
theorem at_l1 {α : Type} (xs : List α) (a b : α) (r : List α) : (xs ++ a :: b :: r)[xs.length + 1]? = some b := by simp
theorem at_l2 {α : Type} (xs : List α) (a b c : α) (r : List α) : (xs ++ a :: b :: c :: r)[xs.length + 2]? = some c := by simp
theorem set_l0 {α : Type} (xs : List α) (a d : α) (r : List α) : (xs ++ a :: r).set xs.length d = xs ++ d :: r := by simp

theorem Herd.ahead10 {W w wr : World} {xs zs : List ((Nat → Nat) × Thing)} (h : Herd W w (xs ++ zs)) (i : Nat) {K K1 : Nat → Nat} {x : Thing} (hi : (xs ++ zs)[i]? = some (K, x)) (hx : xs.length ≤ i) (hF : Fr K K1 w wr) : Herd W wr xs := by
  have up : ∀ (j : Nat) d, xs[j]? = some d → (xs ++ zs)[j]? = some d ∧ j ≠ i := fun j d hd => by
    have hj := (List.getElem?_eq_some_iff.1 hd).1
    exact ⟨by rw [List.getElem?_append_left hj]; exact hd, by omega⟩
  refine ⟨h.bel.trans (hF.below (h.up i _ hi) h.bel.size), fun j d hd => ?_, fun j d hd => h.up j d (up j d hd).1, fun j k d e hd he => h.sep j k d e (up j d hd).1 (up k e he).1⟩
  obtain ⟨hd', hne⟩ := up j d hd
  exact d.2.far (h.rep j d hd') hF.size fun k hk => hF.block k (d.2.sup (h.rep j d hd') k hk) (h.sep j i d _ hd' hi hne k hk)

def Rdb (W : World) (xs : List ((Nat → Nat) × Thing)) (v : Value) (l : List Int) : Prop := ∀ (wr : World) (zs : List ((Nat → Nat) × Thing)), Herd W wr (xs ++ zs) → SB wr v l

theorem hraw10 {W w : World} {xs : List ((Nat → Nat) × Thing)} (H : Herd W w xs) (i : Nat) {K : Nat → Nat} {g : Nat} {row : List Int} (hi : xs[i]? = some (K, tw g row)) (u : Value) (l : List Int) (hB : Byt l) (hS : ∀ wr K1, Fr K K1 w wr → SB wr u l) :
    Calls Tryz.prog 54 #[.pointer (some ⟨g, 0, none⟩), u] w fun e w' => e = .returned (.int .i64 (rawE row l)) ∧ ∃ K', Herd W w' (xs.set i (K', tw g (rawRow row l))) := by
  have hw : Wp w K g row := H.rep i _ hi
  refine (wraw_any hw u l hB hS).mono ?_
  rintro e w1 ⟨rfl, K', h1, h2⟩
  exact ⟨rfl, K', H.op i hi (x' := tw g (rawRow row l)) h1 h2⟩

set_option maxHeartbeats 1000000 in
theorem hstart {W w : World} {xs : List ((Nat → Nat) × Thing)} (H : Herd W w xs) (k : Nat) (hk : k ≤ 2) (f : Bool) :
    Calls Tryz.prog 28 #[.int .i64 (k : Int), .bool f] w fun e w' => ∃ g K, e = .returned (.pointer (some ⟨g, 0, none⟩)) ∧ Herd W w' (xs ++ [(K, tw g (hd3 k f))]) := by
  have HH := hide (hnewW H)
  clear H
  have hk' : (k : Int) ≤ 2 := by omega
  have hwk : IntKind.u32.wrap (k : Int) = (k : Int) := by rw [IntKind.wrap_u32]; omega
  go_enter Tryz.func28, Tryz.ntmps28
  go_wp2_with fail
  refine HH.out.mono ?_
  rintro e w1 ⟨g, K, rfl, h1⟩
  have HP1 : Hid (∀ f : Bool, Calls Tryz.prog 17 #[.pointer (some ⟨g, 0, none⟩), .int .u32 (if f then 1 else 0), .int .i64 1] w1 fun e w' => ∃ x, e = .returned (.int .i64 x) ∧ ∃ K', Herd W w' (xs ++ [(K', tw g (bts (if f then 1 else 0) 1))])) := fun f => by
    refine (hput h1 xs.length (at_l0 _ _ _) (if f then 1 else 0) 1 (by split <;> decide) (by split <;> decide)).mono ?_
    rintro e w2 ⟨rfl, K', h2⟩
    rw [set_l0, put_is (by decide) (by decide) (by split <;> decide) (by simp), List.nil_append] at h2
    exact ⟨_, rfl, K', h2⟩
  clear h1 HH
  have HP2 : Hid (∀ (w2 : World) (K' : Nat → Nat), Herd W w2 (xs ++ [(K', tw g (bts (if f then 1 else 0) 1))]) → Calls Tryz.prog 17 #[.pointer (some ⟨g, 0, none⟩), .int .u32 (k : Int), .int .i64 2] w2 fun e w' => ∃ x, e = .returned (.int .i64 x) ∧ ∃ K', Herd W w' (xs ++ [(K', tw g (hd3 k f))])) := fun w2 K' h2 => by
    refine (hput h2 xs.length (at_l0 _ _ _) (k : Int) 2 (by omega) (by omega)).mono ?_
    rintro e w3 ⟨rfl, K'', h3⟩
    rw [set_l0, put_is (by decide) (by decide) (by show (k : Int) < 4; omega) (by rw [length_bts]; decide)] at h3
    exact ⟨_, rfl, K'', h3⟩
  cases f with
  | false =>
    have HPA := hide (HP1.out false)
    simp only [Bool.false_eq_true, if_false] at HPA
    go_wp2_with fail
    refine HPA.out.mono ?_
    rintro e w2 ⟨x2, rfl, K2, h2⟩
    have HPB := hide (HP2.out w2 K2 (by simpa using h2))
    clear h2 HPA HP1 HP2
    go_wp2_with fail
    refine HPB.out.mono ?_
    rintro e w3 ⟨x3, rfl, K3, h3⟩
    have HF := hide h3
    clear h3 HPB
    go_wp2
    go_ret
    exact ⟨g, K3, rfl, HF.out⟩
  | true =>
    have HPA := hide (HP1.out true)
    simp only [if_true] at HPA
    go_wp2_with fail
    refine HPA.out.mono ?_
    rintro e w2 ⟨x2, rfl, K2, h2⟩
    have HPB := hide (HP2.out w2 K2 (by simpa using h2))
    clear h2 HPA HP1 HP2
    go_wp2_with fail
    refine HPB.out.mono ?_
    rintro e w3 ⟨x3, rfl, K3, h3⟩
    have HF := hide h3
    clear h3 HPB
    go_wp2
    go_ret
    exact ⟨g, K3, rfl, HF.out⟩

set_option maxHeartbeats 2000000 in
theorem hputRaw {W w : World} {xs : List ((Nat → Nat) × Thing)} {K : Nat → Nat} {g : Nat} {row : List Int} (H : Herd W w (xs ++ [(K, tw g row)])) (v : Value) (l : List Int) (hs : Rdb W xs v l) (hB : Byt l) (hl : l.length ≤ 65535) (hr : row.length ≤ 1000) (a : Int) (h0 : 0 ≤ a) (h1 : a ≤ 9223372036854775807) :
    Calls Tryz.prog 29 #[.pointer (some ⟨g, 0, none⟩), v, .int .i64 a] w fun e w' => e = .returned (.tuple #[]) ∧ ∃ K', Herd W w' (xs ++ [(K', tw g (row ++ rawB l a))]) := by
  have HS := hide hs
  have HBY := hide hB
  have HMS := hide (missing_any a h0 h1 w)
  obtain ⟨m, HM⟩ : ∃ m : Nat, Hid ((m : Int) = (13 - a % 8) % 8) := ⟨((13 - a % 8) % 8).toNat, by show _ = _; omega⟩
  have hm : m ≤ 7 := by have := HM.out; omega
  rw [← HM.out] at HMS
  have HRB : Hid (rawB l a = bts 0 m ++ bts (l.length : Int) 16 ++ bts (65535 - (l.length : Int)) 16 ++ unpack l) := by
    show _ = _
    unfold rawB
    rw [← HM.out]; rfl
  have HH := hide H
  obtain ⟨ao, cap, rfl, hlc, hcm, -⟩ := hs w _ H
  unfold maxLen at hcm
  obtain ⟨N, HN⟩ : ∃ N : Nat, Hid (N = l.length) := ⟨_, rfl⟩
  have hN : N ≤ 65535 := by rw [HN.out]; exact hl
  have HSN : Hid (Rdb W xs (.slice ao N cap) l) := by rw [HN.out]; exact HS
  rw [← HN.out] at hlc ⊢
  have hw1 : IntKind.u32.wrap (N : Int) = (N : Int) := by rw [IntKind.wrap_u32]; omega
  have hw2 : IntKind.u32.wrap (65535 - (N : Int)) = 65535 - (N : Int) := by rw [IntKind.wrap_u32]; omega
  clear hB h0 h1 H HS hl hs
  go_enter Tryz.func29, Tryz.ntmps29
  go_wp2_with fail
  refine HMS.out.mono ?_
  rintro e w1 ⟨rfl, hw1'⟩
  rw [hw1']
  clear hw1' HMS
  have HP1 : Hid (Calls Tryz.prog 17 #[.pointer (some ⟨g, 0, none⟩), .int .u32 0, .int .i64 (m : Int)] w fun e w' => ∃ x, e = .returned (.int .i64 x) ∧ ∃ K', Herd W w' (xs ++ [(K', tw g (row ++ bts 0 m))])) := by
    refine (hput HH.out xs.length (at_l0 _ _ _) 0 (m : Int) (by decide) (by decide)).mono ?_
    rintro e w2 ⟨rfl, K', h2⟩
    rw [set_l0, put_is (by omega) (by omega) (by exact Int.pow_pos (by decide)) (by omega), Int.toNat_natCast] at h2
    exact ⟨_, rfl, K', h2⟩
  clear HH
  go_wp2_with fail
  refine HP1.out.mono ?_
  rintro e w2 ⟨x2, rfl, K2, h2⟩
  have HP2 : Hid (Calls Tryz.prog 17 #[.pointer (some ⟨g, 0, none⟩), .int .u32 (N : Int), .int .i64 16] w2 fun e w' => ∃ x, e = .returned (.int .i64 x) ∧ ∃ K', Herd W w' (xs ++ [(K', tw g (row ++ bts 0 m ++ bts (N : Int) 16))])) := by
    refine (hput h2 xs.length (at_l0 _ _ _) (N : Int) 16 (by omega) (by omega)).mono ?_
    rintro e w3 ⟨rfl, K', h3⟩
    rw [set_l0, put_is (by decide) (by decide) (by show (N : Int) < 65536; omega) (by rw [List.length_append, length_bts]; omega)] at h3
    exact ⟨_, rfl, K', h3⟩
  clear h2 HP1
  go_wp2_with fail
  refine HP2.out.mono ?_
  rintro e w3 ⟨x3, rfl, K3, h3⟩
  have HP3 : Hid (Calls Tryz.prog 17 #[.pointer (some ⟨g, 0, none⟩), .int .u32 (65535 - (N : Int)), .int .i64 16] w3 fun e w' => ∃ x, e = .returned (.int .i64 x) ∧ ∃ K', Herd W w' (xs ++ [(K', tw g (row ++ bts 0 m ++ bts (N : Int) 16 ++ bts (65535 - (N : Int)) 16))])) := by
    refine (hput h3 xs.length (at_l0 _ _ _) (65535 - (N : Int)) 16 (by omega) (by omega)).mono ?_
    rintro e w4 ⟨rfl, K', h4⟩
    rw [set_l0, put_is (by decide) (by decide) (by show 65535 - (N : Int) < 65536; omega) (by rw [List.length_append, List.length_append, length_bts, length_bts]; omega)] at h4
    exact ⟨_, rfl, K', h4⟩
  clear h3 HP2
  go_wp2_with fail
  refine HP3.out.mono ?_
  rintro e w4 ⟨x4, rfl, K4, h4⟩
  have HP4 := hide (hnewW h4)
  clear h4 HP3
  go_wp2_with fail
  refine HP4.out.mono ?_
  rintro e w5 ⟨g5, K5, rfl, h5⟩
  rw [List.append_assoc] at h5
  have HP5 : Hid (Calls Tryz.prog 54 #[.pointer (some ⟨g5, 0, none⟩), .slice ao N cap] w5 fun e w' => ∃ x, e = .returned (.int .i64 x) ∧ ∃ K', Herd W w' (xs ++ [(K4, tw g (row ++ bts 0 m ++ bts (N : Int) 16 ++ bts (65535 - (N : Int)) 16)), (K', tw g5 (unpack l))])) := by
    refine (hraw10 h5 (xs.length + 1) (at_l1 _ _ _ _) _ l HBY.out (fun wr K1 hF => HSN.out wr [] (by simpa using h5.ahead10 (xs.length + 1) (at_l1 _ _ _ _) (by omega) hF))).mono ?_
    rintro e w6 ⟨rfl, K', h6⟩
    have er : rawRow [] l = unpack l := by
      unfold rawRow
      rw [if_neg (by rw [← HN.out]; simp; omega), if_neg (by simp), List.nil_append]
    rw [er] at h6
    refine ⟨_, rfl, K', ?_⟩
    simpa using h6
  clear h5 HP4
  go_wp2_with fail
  refine HP5.out.mono ?_
  rintro e w6 ⟨x6, rfl, K6, h6⟩
  have HP6 : Hid (Calls Tryz.prog 33 #[.pointer (some ⟨g, 0, none⟩), .pointer (some ⟨g5, 0, none⟩)] w6 fun e w' => ∃ x, e = .returned (.int .i64 x) ∧ ∃ K', Herd W w' (xs ++ [(K', tw g (row ++ rawB l a))])) := by
    refine (hjoin h6 xs.length (xs.length + 1) (at_l0 _ _ _) (at_l1 _ _ _ _) (by omega)).mono ?_
    rintro e w7 ⟨rfl, K', h7⟩
    rw [set_l0] at h7
    have ej : joinRow (row ++ bts 0 m ++ bts (N : Int) 16 ++ bts (65535 - (N : Int)) 16) (unpack l) = row ++ rawB l a := by
      unfold joinRow
      rw [if_neg (by simp only [List.length_append, length_bts, length_unpack, ← HN.out]; omega), HRB.out, ← HN.out]
      simp only [List.append_assoc]
    rw [ej] at h7
    refine ⟨_, rfl, K', ?_⟩
    have h8 : Herd W w7 ((xs ++ [(K', tw g (row ++ rawB l a))]) ++ [(K6, tw g5 (unpack l))]) := by simpa using h7
    exact h8.front
  clear h6 HP5
  go_wp2_with fail
  refine HP6.out.mono ?_
  rintro e w7 ⟨x7, rfl, K7, h7⟩
  have HF := hide h7
  clear h7 HP6
  go_wp2
  (try simp only [Exit.inBlock, Exit.then])
  refine bodyPost_end (results_none rfl _ _ _) rfl ?_
  exact ⟨rfl, K7, HF.out⟩

def Rdy (W : World) (xs : List ((Nat → Nat) × Thing)) (v : Value) (R : List Tk) : Prop := ∀ (wr : World) (zs : List ((Nat → Nat) × Thing)), Herd W wr (xs ++ zs) → SK wr v R

set_option maxHeartbeats 4000000 in
theorem hputBody {W w : World} {xs : List ((Nat → Nat) × Thing)} {K : Nat → Nat} {g : Nat} {row : List Int} (H : Herd W w (xs ++ [(K, tw g row)])) (v : Value) (R : List Tk) (hR : Rdy W xs v R) (a1 a2 : Option Addr) (n1 c1 n2 c2 : Nat) (P Q : List Int) (sp : SI w (.slice a1 n1 c1) P) (sq : SI w (.slice a2 n2 c2) Q)
    (hn : R.length ≤ 65535) (hs : ∀ t ∈ R, Snd t ∧ Bt t) (hP : ∀ i, 0 ≤ P.getD i 0 ∧ P.getD i 0 ≤ 15) (hQ : ∀ i, 0 ≤ Q.getD i 0 ∧ Q.getD i 0 ≤ 15) (bP : bkE P = 0) (bQ : bkE Q = 0) (hW : Wds P Q R) (hr : row.length ≤ 20000) (T : Ltab W ∧ Dtab W) :
    Calls Tryz.prog 30 #[.pointer (some ⟨g, 0, none⟩), v, .agg #[.slice a1 n1 c1, .slice a2 n2 c2]] w fun e w' => e = .returned (.tuple #[]) ∧ ∃ K', Herd W w' (xs ++ [(K', tw g (row ++ (bodB P Q R ++ wb P 256)))]) := by
  have HRD := hide hR
  have HSN := hide hs
  have HPP := hide hP
  have HQQ := hide hQ
  have HBP := hide bP
  have HBQ := hide bQ
  have HWD := hide hW
  have HT := hide T
  have HLP := hide (bkE_zero bP).1
  have HLQ := hide (bkE_zero bQ).1
  have HSP := hide sp
  have HSQ := hide sq
  have HH := hide H
  obtain ⟨ao, cap, rfl, hlc, hcm⟩ := (hR w _ H).open
  clear hR hs hP hQ bP bQ hW T sp sq H
  obtain ⟨wbo, hwbo⟩ : ∃ wbo, w.alloc (.cells #[.slice a1 n1 c1, .slice a2 n2 c2] 67) = wbo := ⟨_, rfl⟩
  have HB1 : Hid (Below w.heap.size w wbo) := by show Below _ _ _; rw [← hwbo]; exact (Below.refl _ _).alloc (Nat.le_refl _) _
  have nb : wbo.heap[w.heap.size]? = some (.cells #[.slice a1 n1 c1, .slice a2 n2 c2] 67 (0, 0)) := by rw [← hwbo]; exact heap_alloc_new w _
  have d0 : wbo.cell? ⟨w.heap.size, 0, none⟩ = some (.slice a1 n1 c1) := by unfold World.cell?; rw [nb]; rfl
  have d1 : wbo.cell? ⟨w.heap.size, 1, none⟩ = some (.slice a2 n2 c2) := by unfold World.cell?; rw [nb]; rfl
  have HLTB : Hid (w.heap.size < wbo.heap.size) := by show _ < _; rw [← hwbo]; simp
  have HD1 := hide d1
  have HHB := hide (HH.out.below HB1.out)
  have HNE := hide (newEncoder_any _ P wbo (HSP.out.below HB1.out))
  clear nb
  go_enter Tryz.func30, Tryz.ntmps30
  go_wp2_with fail
  refine HNE.out.mono ?_
  rintro e w1 ⟨b1, hen | ⟨-, e1, K1, rfl, hE1, hK1⟩⟩
  · exact absurd HBP.out hen.1
  have HH1 := hide (HHB.out.push b1 (x := te e1 P) hE1 hK1)
  have d1' : w1.cell? ⟨w.heap.size, 1, none⟩ = some (.slice a2 n2 c2) := (b1.cell HLTB.out).trans HD1.out
  have HNE2 := hide (newEncoder_any _ Q w1 ((HSQ.out.below HB1.out).below b1))
  clear b1 hE1 hK1 HNE HHB d0 d1 HD1
  go_wp2_with fail
  refine HNE2.out.mono ?_
  rintro e w2 ⟨b2, hen | ⟨-, e2, K2, rfl, hE2, hK2⟩⟩
  · exact absurd HBQ.out hen.1
  have HT0 : Hid (∃ K', Herd W w2 (xs ++ [(K', tw g (row ++ bodB P Q (R.take 0))), (K1, te e1 P), (K2, te e2 Q)])) := by
    refine ⟨K, ?_⟩
    have h := HH1.out.push b2 (x := te e2 Q) hE2 hK2
    simpa [bodB] using h
  clear b2 hE2 hK2 HNE2 HH1 d1' HSP HSQ HH HB1 HLTB
  go_wp2
  go_loopw [30] (fun t wr => ∃ k : Nat, k ≤ R.length ∧ t = .int .i64 (k : Int) ∧ Hid (∃ K', Herd W wr (xs ++ [(K', tw g (row ++ bodB P Q (R.take k))), (K1, te e1 P), (K2, te e2 Q)]))) (fun t _ => R.length - (intOf t).toNat)
  case atStart => exact ⟨0, Nat.zero_le _, rfl, HT0⟩
  case round =>
    obtain ⟨k, hk, rfl, HTk⟩ := hrel
    clear HT0
    obtain ⟨K', hh⟩ := HTk.out
    have HHk := hide hh
    clear hh HTk
    by_cases hlt : k < R.length
    · have hlt' : (k : Int) < (R.length : Int) := by omega
      obtain ⟨b, o, hv, x0, x1, x2⟩ := (HRD.out wr _ HHk.out).get (Below.refl _ _) hlt
      subst hv
      have hmem : R.getD k tk0 ∈ R := by rw [List.getD_eq_getElem?_getD, List.getElem?_eq_getElem hlt]; exact List.getElem_mem hlt
      have hsn := HSN.out _ hmem
      have HWT := hide (HWD.out.2 _ hmem)
      have HSC : Hid (bodB P Q (R.take (k + 1)) = bodB P Q (R.take k) ++ tokB P Q (R.getD k tk0)) := by show _ = _; rw [snd_take hlt, bod_snoc]
      have HLE : Hid ((bodB P Q (R.take k)).length ≤ 48 * 65535) := by
        show _ ≤ _
        have := bod_le HPP.out HQQ.out (R.take k) (fun t ht => HSN.out t (List.mem_of_mem_take ht))
        rw [List.length_take] at this
        omega
      obtain ⟨⟨t1, t2, t3⟩, ht⟩ : ∃ t, R.getD k tk0 = t := ⟨_, rfl⟩
      rw [ht] at x0 x1 x2 hsn HWT HSC
      simp only at x0 x1 x2
      clear hmem ht
      obtain ⟨ro, HRO⟩ : ∃ ro, Hid (ro = row ++ bodB P Q (R.take k)) := ⟨_, rfl⟩
      have hrol : ro.length ≤ 3200000 := by rw [HRO.out, List.length_append]; have := HLE.out; omega
      rw [← HRO.out] at HHk
      obtain ⟨w6, hw6⟩ : ∃ w6, wr.alloc (.cells #[.int .i64 t1, .int .i64 t2, .int .u8 t3] 54) = w6 := ⟨_, rfl⟩
      have HN6 : Hid (w6.heap[wr.heap.size]? = some (.cells #[.int .i64 t1, .int .i64 t2, .int .u8 t3] 54 (0, 0))) := by rw [← hw6]; exact heap_alloc_new wr _
      obtain ⟨Kq, h6⟩ := HHk.out.box1 (.cells #[.int .i64 t1, .int .i64 t2, .int .u8 t3] 54)
      rw [hw6] at h6
      obtain ⟨q, hq⟩ : ∃ q, wr.heap.size = q := ⟨_, rfl⟩
      rw [hq] at HN6 h6
      have HH6 : Hid (Herd W w6 (xs ++ [(K', tw g ro), (K1, te e1 P), (K2, te e2 Q), (Kq, tb q (.cells #[.int .i64 t1, .int .i64 t2, .int .u8 t3] 54))])) := by
        show Herd _ _ _
        simpa using h6
      clear h6 HHk
      by_cases h0 : t1 = 0
      · obtain ⟨n3, rfl⟩ := Int.eq_ofNat_of_zero_le hsn.2.1
        have b3 : (n3 : Int) < 256 := hsn.2.2
        have e1' : litS (t1, t2, (n3 : Int)) = n3 := by unfold litS; rw [if_pos h0]; simp
        have e2' : tokB P Q (t1, t2, (n3 : Int)) = wb P n3 := by unfold tokB; rw [if_pos h0, e1']
        have hnl := HWT.out.1
        rw [e1'] at hnl
        have HEP := hide (ep_ok hnl (by omega) HLP.out (row := ro))
        have HPT : Hid (Calls Tryz.prog 56 #[.pointer (some ⟨e1, 0, none⟩), .pointer (some ⟨g, 0, none⟩), .int .i64 (n3 : Int)] w6 fun e w' => ∃ x, e = .returned (.int .i64 x) ∧ ∃ K', Herd W w' (xs ++ [(K', tw g (row ++ bodB P Q (R.take (k + 1)))), (K1, te e1 P), (K2, te e2 Q)])) := by
          refine (heput HH6.out (xs.length + 1) xs.length (at_l1 _ _ _ _) (at_l0 _ _ _) (n3 : Int) (by omega) (by omega)).mono ?_
          rintro e w7 ⟨rfl, K7, h7⟩
          rw [set_l0, HEP.out.2, Int.toNat_natCast] at h7
          refine ⟨_, rfl, K7, ?_⟩
          rw [HSC.out, e2', ← List.append_assoc, ← HRO.out]
          have h8 : Herd W w7 ((xs ++ [(K7, tw g (ro ++ wb P n3)), (K1, te e1 P), (K2, te e2 Q)]) ++ [(Kq, tb q (.cells #[.int .i64 t1, .int .i64 t2, .int .u8 (n3 : Int)] 54))]) := by simpa using h7
          exact h8.front
        have y0 : w6.cell? ⟨q, 0, none⟩ = some (.int .i64 t1) := by unfold World.cell?; rw [HN6.out]; rfl
        have y2 : w6.cell? ⟨q, 2, none⟩ = some (.int .u8 (n3 : Int)) := by unfold World.cell?; rw [HN6.out]; rfl
        rw [h0] at y0
        clear hnl HEP e1' e2' hsn HWT HN6 HH6 h0
        go_wp2_with fail
        refine HPT.out.mono ?_
        rintro e w7 ⟨x7, rfl, K7, h7⟩
        have HN := hide h7
        clear h7 HPT y0 y2
        go_wp2
        go_roundw
        case rel => exact ⟨k + 1, by omega, by go_num, K7, HN.out⟩
        case measure => simp [intOf]; omega
      · have hq3 : 3 ≤ t1 ∧ t1 ≤ 258 ∧ 1 ≤ t2 ∧ t2 ≤ 32768 ∧ t3 = 0 := by
          have := hsn.1
          unfold Snd at this
          rw [if_neg h0] at this
          exact this
        obtain ⟨g1, g2, g3, g4, g5⟩ := hq3
        obtain ⟨z1, rfl⟩ := Int.eq_ofNat_of_zero_le (show 0 ≤ t1 by omega)
        obtain ⟨z2, rfl⟩ := Int.eq_ofNat_of_zero_le (show 0 ≤ t2 by omega)
        have e1' : litS ((z1 : Int), (z2 : Int), t3) = 257 + lsy z1 := by unfold litS; rw [if_neg h0]; simp
        have hls : Lsy z1 (lsy z1) := lsy_spec (by omega)
        have hds : Dsy z2 (dsy z2) := dsy_spec (by omega)
        have hn1 := HWT.out.1
        rw [e1'] at hn1
        have hn2 := HWT.out.2 h0
        simp only [Int.toNat_natCast] at hn2
        have f1 := (lfLe _ hls.1).1
        have f2 := (dfLe _ hds.1).1
        have p1 := lsy_bitsW hls (by omega)
        have p2 := dsy_bitsW hds (by omega)
        have q1 := hls.1
        have q2 := hds.1
        have HTB : Hid (tokB P Q ((z1 : Int), (z2 : Int), t3) = wb P (257 + lsy z1) ++ bts ((z1 - LB (lsy z1) : Nat) : Int) (LF (lsy z1)) ++ (wb Q (dsy z2) ++ bts ((z2 - DB (dsy z2) : Nat) : Int) (DF (dsy z2)))) := by
          show _ = _
          unfold tokB
          rw [if_neg h0, e1']
          simp only [Int.toNat_natCast]
          rw [show (z1 : Int) - (LB (lsy z1) : Int) = ((z1 - LB (lsy z1) : Nat) : Int) by have := hls.2.1; omega, show (z2 : Int) - (DB (dsy z2) : Int) = ((z2 - DB (dsy z2) : Nat) : Int) by have := hds.2.1; omega]
        have HLS := hide (fun (wx : World) (hb : Below W.heap.size W wx) => lsymbol_any z1 (lsy z1) wx (HT.out.1.low hb) hls (by omega) (by omega))
        have HDS := hide (fun (wx : World) (hb : Below W.heap.size W wx) => dsymbol_any z2 (dsy z2) wx (HT.out.2.low hb) hds (by omega) (by omega))
        obtain ⟨A, hA⟩ : ∃ A, 257 + lsy z1 = A := ⟨_, rfl⟩
        obtain ⟨F1, hF1⟩ : ∃ A, LF (lsy z1) = A := ⟨_, rfl⟩
        obtain ⟨X1, hX1⟩ : ∃ A, z1 - LB (lsy z1) = A := ⟨_, rfl⟩
        obtain ⟨F2, hF2⟩ : ∃ A, DF (dsy z2) = A := ⟨_, rfl⟩
        obtain ⟨X2, hX2⟩ : ∃ A, z2 - DB (dsy z2) = A := ⟨_, rfl⟩
        obtain ⟨B, hB⟩ : ∃ A, dsy z2 = A := ⟨_, rfl⟩
        rw [hF1] at f1
        rw [hF2] at f2
        rw [hX1, hF1] at p1
        rw [hX2, hF2] at p2
        rw [hA, hF1, hX1] at HLS
        rw [hF2, hX2, hB] at HDS
        rw [hA, hF1, hX1, hF2, hX2, hB] at HTB
        have hA2 : A < 286 := by omega
        have hB2 : B < 30 := by rw [← hB]; exact q2
        rw [hB] at hn2
        have hn1' : lnI P (A : Int) ≠ 0 := by rw [← hA]; exact hn1
        have p1' : X1 < 4294967296 := Nat.lt_of_lt_of_le p1 (Nat.le_trans (Nat.pow_le_pow_right (n := 2) (by decide) f1) (by decide))
        have p2' : X2 < 4294967296 := Nat.lt_of_lt_of_le p2 (Nat.le_trans (Nat.pow_le_pow_right (n := 2) (by decide) f2) (by decide))
        have wx1 : IntKind.u32.wrap (X1 : Int) = (X1 : Int) := by rw [IntKind.wrap_u32]; omega
        have wx2 : IntKind.u32.wrap (X2 : Int) = (X2 : Int) := by rw [IntKind.wrap_u32]; omega
        have hbl : (ro ++ wb P A ++ bts (X1 : Int) F1 ++ wb Q B).length ≤ 3210000 := by
          simp only [List.length_append, wb_len, length_bts]
          have h1 := (HLP.out.ln A).2
          have h2 := (HLQ.out.ln B).2
          omega
        have HBL := hide hbl
        have HW1 : Hid (∀ (wx : World) (Kx : Nat → Nat), Herd W wx (xs ++ [(Kx, tw g ro), (K1, te e1 P), (K2, te e2 Q), (Kq, tb q (.cells #[.int .i64 (z1 : Int), .int .i64 (z2 : Int), .int .u8 t3] 54))]) → Calls Tryz.prog 56 #[.pointer (some ⟨e1, 0, none⟩), .pointer (some ⟨g, 0, none⟩), .int .i64 (A : Int)] wx fun e w' => ∃ x, e = .returned (.int .i64 x) ∧ ∃ K', Herd W w' (xs ++ [(K', tw g (ro ++ wb P A)), (K1, te e1 P), (K2, te e2 Q), (Kq, tb q (.cells #[.int .i64 (z1 : Int), .int .i64 (z2 : Int), .int .u8 t3] 54))])) := fun wx Kx hx => by
          refine (heput hx (xs.length + 1) xs.length (at_l1 _ _ _ _) (at_l0 _ _ _) (A : Int) (by omega) (by omega)).mono ?_
          rintro e w7 ⟨rfl, K7, h7⟩
          rw [set_l0, (ep_ok hn1' (by omega) HLP.out (row := ro)).2, Int.toNat_natCast] at h7
          exact ⟨_, rfl, K7, h7⟩
        have HW2 : Hid (∀ (wx : World) (Kx : Nat → Nat), Herd W wx (xs ++ [(Kx, tw g (ro ++ wb P A)), (K1, te e1 P), (K2, te e2 Q), (Kq, tb q (.cells #[.int .i64 (z1 : Int), .int .i64 (z2 : Int), .int .u8 t3] 54))]) → Calls Tryz.prog 17 #[.pointer (some ⟨g, 0, none⟩), .int .u32 (X1 : Int), .int .i64 (F1 : Int)] wx fun e w' => ∃ x, e = .returned (.int .i64 x) ∧ ∃ K', Herd W w' (xs ++ [(K', tw g (ro ++ wb P A ++ bts (X1 : Int) F1)), (K1, te e1 P), (K2, te e2 Q), (Kq, tb q (.cells #[.int .i64 (z1 : Int), .int .i64 (z2 : Int), .int .u8 t3] 54))])) := fun wx Kx hx => by
          refine (hput hx xs.length (at_l0 _ _ _) (X1 : Int) (F1 : Int) (by omega) (by omega)).mono ?_
          rintro e w7 ⟨rfl, K7, h7⟩
          rw [set_l0, put_is (by omega) (by omega) (by rw [Int.toNat_natCast]; exact_mod_cast p1) (by have := HBL.out; simp only [List.length_append, wb_len, length_bts] at this ⊢; omega), Int.toNat_natCast] at h7
          exact ⟨_, rfl, K7, h7⟩
        have HW3 : Hid (∀ (wx : World) (Kx : Nat → Nat), Herd W wx (xs ++ [(Kx, tw g (ro ++ wb P A ++ bts (X1 : Int) F1)), (K1, te e1 P), (K2, te e2 Q), (Kq, tb q (.cells #[.int .i64 (z1 : Int), .int .i64 (z2 : Int), .int .u8 t3] 54))]) → Calls Tryz.prog 56 #[.pointer (some ⟨e2, 0, none⟩), .pointer (some ⟨g, 0, none⟩), .int .i64 (B : Int)] wx fun e w' => ∃ x, e = .returned (.int .i64 x) ∧ ∃ K', Herd W w' (xs ++ [(K', tw g (ro ++ wb P A ++ bts (X1 : Int) F1 ++ wb Q B)), (K1, te e1 P), (K2, te e2 Q), (Kq, tb q (.cells #[.int .i64 (z1 : Int), .int .i64 (z2 : Int), .int .u8 t3] 54))])) := fun wx Kx hx => by
          refine (heput hx (xs.length + 2) xs.length (at_l2 _ _ _ _ _) (at_l0 _ _ _) (B : Int) (by omega) (by omega)).mono ?_
          rintro e w7 ⟨rfl, K7, h7⟩
          rw [set_l0, (ep_ok hn2 (by have := HBL.out; simp only [List.length_append, wb_len, length_bts] at this ⊢; omega) HLQ.out).2, Int.toNat_natCast] at h7
          exact ⟨_, rfl, K7, h7⟩
        have HW4 : Hid (∀ (wx : World) (Kx : Nat → Nat), Herd W wx (xs ++ [(Kx, tw g (ro ++ wb P A ++ bts (X1 : Int) F1 ++ wb Q B)), (K1, te e1 P), (K2, te e2 Q), (Kq, tb q (.cells #[.int .i64 (z1 : Int), .int .i64 (z2 : Int), .int .u8 t3] 54))]) → Calls Tryz.prog 17 #[.pointer (some ⟨g, 0, none⟩), .int .u32 (X2 : Int), .int .i64 (F2 : Int)] wx fun e w' => ∃ x, e = .returned (.int .i64 x) ∧ ∃ K', Herd W w' (xs ++ [(K', tw g (row ++ bodB P Q (R.take (k + 1)))), (K1, te e1 P), (K2, te e2 Q)])) := fun wx Kx hx => by
          refine (hput hx xs.length (at_l0 _ _ _) (X2 : Int) (F2 : Int) (by omega) (by omega)).mono ?_
          rintro e w7 ⟨rfl, K7, h7⟩
          rw [set_l0, put_is (by omega) (by omega) (by rw [Int.toNat_natCast]; exact_mod_cast p2) (by have := HBL.out; omega), Int.toNat_natCast] at h7
          refine ⟨_, rfl, K7, ?_⟩
          have h8 : Herd W w7 ((xs ++ [(K7, tw g (ro ++ wb P A ++ bts (X1 : Int) F1 ++ wb Q B ++ bts (X2 : Int) F2)), (K1, te e1 P), (K2, te e2 Q)]) ++ [(Kq, tb q (.cells #[.int .i64 (z1 : Int), .int .i64 (z2 : Int), .int .u8 t3] 54))]) := by simpa using h7
          have h9 := h8.front
          rw [HSC.out, HTB.out, ← List.append_assoc, ← HRO.out]
          simpa only [List.append_assoc] using h9
        have y0 : w6.cell? ⟨q, 0, none⟩ = some (.int .i64 (z1 : Int)) := by unfold World.cell?; rw [HN6.out]; rfl
        have y1 : w6.cell? ⟨q, 1, none⟩ = some (.int .i64 (z2 : Int)) := by unfold World.cell?; rw [HN6.out]; rfl
        have HYY : Hid (∀ (wx : World) (Kx : Nat → Nat) (rx : List Int), Herd W wx (xs ++ [(Kx, tw g rx), (K1, te e1 P), (K2, te e2 Q), (Kq, tb q (.cells #[.int .i64 (z1 : Int), .int .i64 (z2 : Int), .int .u8 t3] 54))]) → wx.cell? ⟨q, 1, none⟩ = some (.int .i64 (z2 : Int))) := fun wx Kx rx hx => by
          have h8 : Herd W wx ((xs ++ [(Kx, tw g rx), (K1, te e1 P), (K2, te e2 Q)]) ++ [(Kq, tb q (.cells #[.int .i64 (z1 : Int), .int .i64 (z2 : Int), .int .u8 t3] 54))]) := by simpa using hx
          unfold World.cell?; rw [h8.tbs]; rfl
        have zz0 : ((z1 : Int) == 0) = false := beq_eq_false_iff_ne.2 (by omega)
        have zz1 : ¬ (z1 : Int) = 0 := by omega
        clear hsn HWT e1' hls hds hA hF1 hX1 hF2 hX2 hB hn1 hn2 hn1' p1 p2 q1 q2 hbl h0 g1 g2 g3 g4 g5 HTB HN6 y1
        go_wp2_with fail
        refine (HLS.out w6 HH6.out.bel).mono ?_
        rintro e w7 ⟨rfl, b7⟩
        have HC7 := hide (HW1.out w7 _ (HH6.out.below b7))
        clear b7 y0 HH6 HLS
        go_wp2_with fail
        refine HC7.out.mono ?_
        rintro e w8 ⟨x8, rfl, K8, h8⟩
        have HC8 := hide (HW2.out w8 _ h8)
        clear h8 HC7
        go_wp2_with fail
        refine HC8.out.mono ?_
        rintro e w9 ⟨x9, rfl, K9, h9⟩
        have HH9 := hide h9
        have y9 := HYY.out w9 _ _ h9
        clear h9 HC8
        go_wp2_with fail
        refine (HDS.out w9 HH9.out.bel).mono ?_
        rintro e w10 ⟨rfl, b10⟩
        have HC10 := hide (HW3.out w10 _ (HH9.out.below b10))
        clear b10 y9 HH9 HDS
        go_wp2_with fail
        refine HC10.out.mono ?_
        rintro e w11 ⟨x11, rfl, K11, h11⟩
        have HC11 := hide (HW4.out w11 _ h11)
        clear h11 HC10
        go_wp2_with fail
        refine HC11.out.mono ?_
        rintro e w12 ⟨x12, rfl, K12, h12⟩
        have HN := hide h12
        clear h12 HC11 HW1 HW2 HW3 HW4 HYY
        go_wp2
        go_roundw
        case rel => exact ⟨k + 1, by omega, by go_num, K12, HN.out⟩
        case measure => simp [intOf]; omega
    · obtain rfl : k = R.length := by omega
      have hlt' : ¬ (R.length : Int) < (R.length : Int) := by omega
      rw [List.take_length] at HHk
      have HPE : Hid (Calls Tryz.prog 56 #[.pointer (some ⟨e1, 0, none⟩), .pointer (some ⟨g, 0, none⟩), .int .i64 256] wr fun e w' => ∃ x, e = .returned (.int .i64 x) ∧ ∃ K', Herd W w' (xs ++ [(K', tw g (row ++ (bodB P Q R ++ wb P 256)))])) := by
        refine (heput HHk.out (xs.length + 1) xs.length (at_l1 _ _ _ _) (at_l0 _ _ _) 256 (by omega) (by omega)).mono ?_
        rintro e w7 ⟨rfl, K7, h7⟩
        have hle := bod_le HPP.out HQQ.out R HSN.out
        rw [set_l0, (ep_ok HWD.out.1 (by rw [List.length_append]; omega) HLP.out).2] at h7
        have h8 : Herd W w7 (((xs ++ [(K7, tw g (row ++ bodB P Q R ++ wb P (256 : Int).toNat))]) ++ [(K1, te e1 P)]) ++ [(K2, te e2 Q)]) := by simpa using h7
        refine ⟨_, rfl, K7, ?_⟩
        have h9 := h8.front.front
        rw [← List.append_assoc]
        exact h9
      clear HHk
      go_wp2_with fail
      refine HPE.out.mono ?_
      rintro e w7 ⟨x7, rfl, K7, h7⟩
      have HN := hide h7
      clear h7 HPE
      go_wp2
      (try simp only [Exit.inBlock, Exit.then])
      refine bodyPost_end (results_none rfl _ _ _) rfl ?_
      exact ⟨rfl, K7, HN.out⟩
end Go.Proofs.YtfoglaajnlbnbaaGreatDoor

namespace Go.Proofs.YtfoglaajnlbnbaaGreatDoor
open Go.RowKit Go.Maps
set_option maxRecDepth 20000
set_option linter.unusedVariables false
set_option linter.unusedSimpArgs false

def tik (v : Value) (l : List Int) : Thing :=
  ⟨fun w K => OI w 0 v l ∧ (∀ k, v.ownBlock = some k → K k ≠ 0) ∧ ∀ k, K k ≠ 0 → k < w.heap.size,
   fun h a b => ⟨h.1.move fun k hk => b k (h.2.1 k hk), h.2.1, fun k hk => Nat.lt_of_lt_of_le (h.2.2 k hk) a⟩, fun h => h.2.2⟩

def kOw (v : Value) : Nat → Nat := fun k => if v.ownBlock = some k then 1 else 0

theorem kOw_iff {v : Value} {k : Nat} : kOw v k ≠ 0 ↔ v.ownBlock = some k := by
  unfold kOw
  by_cases e : v.ownBlock = some k
  · simp [e]
  · simp [e]

theorem tik_of {w : World} {B : Nat} {v : Value} {l : List Int} (h : OI w B v l) : (tik v l).P w (kOw v) :=
  ⟨h.base (Nat.zero_le _), fun k hk => kOw_iff.2 hk, fun k hk => (h.lt k (kOw_iff.1 hk)).2⟩

theorem Herd.pushs10 {W w w' : World} {xs ys : List ((Nat → Nat) × Thing)} (h : Herd W w xs) (hb : Below w.heap.size w w') (hr : ∀ (i : Nat) (d : (Nat → Nat) × Thing), ys[i]? = some d → d.2.P w' d.1 ∧ ∀ k, d.1 k ≠ 0 → w.heap.size ≤ k)
    (hs : ∀ (i j : Nat) (d e : (Nat → Nat) × Thing), ys[i]? = some d → ys[j]? = some e → i ≠ j → ∀ k, d.1 k ≠ 0 → e.1 k = 0) : Herd W w' (xs ++ ys) := by
  have h' := h.below hb
  have hsz := h.bel.size
  have sp : ∀ (i : Nat) (d : (Nat → Nat) × Thing), (xs ++ ys)[i]? = some d → (xs[i]? = some d ∧ i < xs.length) ∨ (∃ j, ys[j]? = some d ∧ i = xs.length + j) := fun i d hd => by
    by_cases hi : i < xs.length
    · rw [List.getElem?_append_left hi] at hd; exact .inl ⟨hd, hi⟩
    · rw [List.getElem?_append_right (by omega)] at hd; exact .inr ⟨i - xs.length, hd, by omega⟩
  refine ⟨h'.bel, fun i d hd => ?_, fun i d hd k hk => ?_, fun i j d e hd he hne k hk => ?_⟩
  · rcases sp i d hd with ⟨q, _⟩ | ⟨j, q, _⟩
    · exact h'.rep i d q
    · exact (hr j d q).1
  · rcases sp i d hd with ⟨q, _⟩ | ⟨j, q, _⟩
    · exact h.up i d q k hk
    · have := (hr j d q).2 k hk; omega
  · rcases sp i d hd with ⟨q, qi⟩ | ⟨i', q, qi⟩ <;> rcases sp j e he with ⟨r, rj⟩ | ⟨j', r, rj⟩
    · exact h.sep i j d e q r hne k hk
    · by_cases e0 : e.1 k = 0
      · exact e0
      · exact absurd (Thing.zero (h.rep i d q) ((hr j' e r).2 k e0)) hk
    · exact Thing.zero (h.rep j e r) ((hr i' d q).2 k hk)
    · exact hs i' j' d e q r (by omega) k hk

theorem Herd.lists2 {W w w' : World} {xs : List ((Nat → Nat) × Thing)} (h : Herd W w xs) (hb : Below w.heap.size w w') {v1 v2 : Value} {l1 l2 : List Int} (h1 : OI w' w.heap.size v1 l1) (h2 : OI w' w.heap.size v2 l2) (hs : ∀ k, v1.ownBlock = some k → v2.ownBlock ≠ some k) : Herd W w' (xs ++ [(kOw v1, tik v1 l1), (kOw v2, tik v2 l2)]) := by
  refine h.pushs10 hb (fun i d hd => ?_) (fun i j d e hd he hne k hk => ?_)
  · rcases i with _ | _ | i
    · cases hd; exact ⟨tik_of h1, fun k hk => (h1.lt k (kOw_iff.1 hk)).1⟩
    · cases hd; exact ⟨tik_of h2, fun k hk => (h2.lt k (kOw_iff.1 hk)).1⟩
    · simp at hd
  · rcases i with _ | _ | i <;> rcases j with _ | _ | j <;> simp at hd he hne
    · subst hd he
      by_cases c : kOw v2 k = 0
      · exact c
      · exact absurd (kOw_iff.1 c) (hs k (kOw_iff.1 hk))
    · subst hd he
      by_cases c : kOw v1 k = 0
      · exact c
      · exact absurd (kOw_iff.1 hk) (hs k (kOw_iff.1 c))

set_option maxHeartbeats 4000000 in
theorem hputDynamic {W w : World} {xs : List ((Nat → Nat) × Thing)} {K : Nat → Nat} {g : Nat} {row : List Int} (H : Herd W w (xs ++ [(K, tw g row)])) (v : Value) (R : List Tk) (hR : Rdy W xs v R) (hn : R.length ≤ 65535) (ha : asnd R = true) (hb : ∀ t ∈ R, Bt t) (hr : row.length ≤ 1000) (T : Ltab W ∧ Dtab W) (TH : Tab W) (O : Odr W) :
    Calls Tryz.prog 32 #[.pointer (some ⟨g, 0, none⟩), v] w fun e w' => e = .returned (.tuple #[]) ∧ ∃ K', Herd W w' (xs ++ [(K', tw g (row ++ hdrB (lmL (ctL R) 15) (lmL (ctD R) 15) ++ (bodB (lmL (ctL R) 15) (lmL (ctD R) 15) R ++ wb (lmL (ctL R) 15) 256)))]) := by
  have hall := asnd_all10 ha hb
  obtain ⟨c0, c1, c2, c3, c4⟩ := ctl_facts (R := R) (by omega) ha
  obtain ⟨e1, e2, e3, e4, e5, e6, e7⟩ := dyn_ok (R := R) (by omega) ha hb
  have s1 := cnt_sound (l := ctL R) (by rw [c1]; omega) c3 (Nat.le_refl _)
  have s2 := cnt_sound (l := ctD R) (by rw [c2]; omega) c4 (Nat.le_refl _)
  have u1 := (cnt_lmE (l := ctL R) (by rw [c1]; omega) c3 (Nat.le_refl _)).2
  have u2 := (cnt_lmE (l := ctD R) (by rw [c2]; omega) c4 (Nat.le_refl _)).2
  have p1 : ∀ i, 0 ≤ (lmL (ctL R) 15).getD i 0 ∧ (lmL (ctL R) 15).getD i 0 ≤ 15 := fun i => by rw [e6]; exact lmt_at s1 u1 i
  have p2 : ∀ i, 0 ≤ (lmL (ctD R) 15).getD i 0 ∧ (lmL (ctD R) 15).getD i 0 ≤ 15 := fun i => by rw [e7]; exact lmt_at s2 u2 i
  have f1 : ctL R = (cls (List.replicate 286 0) R).set 256 1 := by unfold ctL; rw [if_pos c0]
  have f2 : ctD R = cdt (List.replicate 30 0) R := by unfold ctD; rw [if_pos c0]
  have HCN := hide (ocount_any v R w (hR w _ H) hall (by omega) ⟨T.1.low H.bel, T.2.low H.bel⟩)
  rw [← f1, ← f2] at HCN
  obtain ⟨P, hP⟩ : ∃ P, lmL (ctL R) 15 = P := ⟨_, rfl⟩
  obtain ⟨Q, hQ⟩ : ∃ Q, lmL (ctD R) 15 = Q := ⟨_, rfl⟩
  rw [hP] at e1 e3 e4 p1
  rw [hQ] at e2 e3 e5 p2
  have HPP := hide hP
  have HQQ := hide hQ
  have HE := hide (show bkE P = 0 ∧ bkE Q = 0 ∧ Wds P Q R ∧ P.length = 286 ∧ Q.length = 30 from ⟨e1, e2, e3, e4, e5⟩)
  have HP1 := hide p1
  have HP2 := hide p2
  have HALL := hide hall
  have HH := hide H
  have HRD := hide hR
  have HT := hide T
  have HTH := hide TH
  have HO := hide O
  rw [hP, hQ]
  obtain ⟨ao, cap, rfl, hlc, hcm⟩ := (hR w _ H).open
  clear hall c0 c1 c2 c3 c4 e1 e2 e3 e4 e5 e6 e7 s1 s2 u1 u2 p1 p2 f1 f2 hP hQ H hR T TH O ha hb
  go_enter Tryz.func32, Tryz.ntmps32
  go_wp2_with fail
  refine HCN.out.mono ?_
  rintro e w1 ⟨g1, g2, rfl, o1, o2, hne, b1⟩
  have HTR := hide (otrees_any _ _ _ _ _ _ (ctL R) (ctD R) w1 o1.sb o2.sb (fun k hk => (o1.lt k hk).2) (fun k hk => (o2.lt k hk).2))
  rw [HPP.out, HQQ.out, HE.out.2.2.2.1, HE.out.2.2.2.2] at HTR
  have HH1 := hide (HH.out.below b1)
  clear o1 o2 hne b1 HCN HH
  go_wp2_with fail
  refine HTR.out.mono ?_
  rintro e w2 ⟨a1, q1, a2, q2, rfl, o1, o2, hne, b2⟩
  have h2 := HH1.out.lists2 b2 o1 o2 hne
  obtain ⟨Kb, h3⟩ := h2.box1 (.cells #[.slice a1 286 q1, .slice a2 30 q2] 67)
  obtain ⟨w3, hw3⟩ : ∃ w3, w2.alloc (.cells #[.slice a1 286 q1, .slice a2 30 q2] 67) = w3 := ⟨_, rfl⟩
  obtain ⟨gb, hgb⟩ : ∃ gb, w2.heap.size = gb := ⟨_, rfl⟩
  rw [hw3, hgb] at h3
  have HH3 : Hid (Herd W w3 (xs ++ [(K, tw g row), (kOw (.slice a1 286 q1), tik (.slice a1 286 q1) P), (kOw (.slice a2 30 q2), tik (.slice a2 30 q2) Q), (Kb, tb gb (.cells #[.slice a1 286 q1, .slice a2 30 q2] 67))])) := by
    show Herd _ _ _
    simpa using h3
  have HFX : Hid (∀ (wx : World) (Kx : Nat → Nat) (rx : List Int), Herd W wx (xs ++ [(Kx, tw g rx), (kOw (.slice a1 286 q1), tik (.slice a1 286 q1) P), (kOw (.slice a2 30 q2), tik (.slice a2 30 q2) Q), (Kb, tb gb (.cells #[.slice a1 286 q1, .slice a2 30 q2] 67))]) → SI wx (.slice a1 286 q1) P ∧ SI wx (.slice a2 30 q2) Q ∧ wx.cell? ⟨gb, 0, none⟩ = some (.slice a1 286 q1) ∧ wx.cell? ⟨gb, 1, none⟩ = some (.slice a2 30 q2) ∧ Herd W wx (xs ++ [(Kx, tw g rx)])) := fun wx Kx rx hx => by
    have r1 : (tik (.slice a1 286 q1) P).P wx (kOw (.slice a1 286 q1)) := hx.rep (xs.length + 1) _ (at_l1 _ _ _ _)
    have r2 : (tik (.slice a2 30 q2) Q).P wx (kOw (.slice a2 30 q2)) := hx.rep (xs.length + 2) _ (at_l2 _ _ _ _ _)
    have h8 : Herd W wx ((((xs ++ [(Kx, tw g rx)]) ++ [(kOw (.slice a1 286 q1), tik (.slice a1 286 q1) P)]) ++ [(kOw (.slice a2 30 q2), tik (.slice a2 30 q2) Q)]) ++ [(Kb, tb gb (.cells #[.slice a1 286 q1, .slice a2 30 q2] 67))]) := by simpa using hx
    exact ⟨r1.1.sb, r2.1.sb, by unfold World.cell?; rw [h8.tbs]; rfl, by unfold World.cell?; rw [h8.tbs]; rfl, h8.front.front.front⟩
  obtain ⟨i1, i2, i3, i4, -⟩ := HFX.out w3 _ _ HH3.out
  have HWR := hide (hwrite HH3.out xs.length (at_l0 _ _ _) _ _ P Q i1 i2 HTH.out HO.out)
  clear o1 o2 hne b2 h2 h3 HTR HH1 i1 i2
  go_wp2_with fail
  rw [hgb] at *
  refine HWR.out.mono ?_
  rintro e w4 ⟨rfl, K4, h4⟩
  rw [set_l0, wr_is hr] at h4
  obtain ⟨j1, j2, j3, j4, j5⟩ := HFX.out w4 _ _ h4
  have HPB := hide (hputBody j5 _ R HRD.out a1 a2 286 q1 30 q2 P Q j1 j2 hn HALL.out HP1.out HP2.out HE.out.1 HE.out.2.1 HE.out.2.2.1 (by rw [List.length_append]; have := (hdrB_len P Q).2; omega) HT.out)
  clear h4 j1 j2 j5 HWR i3 i4 HH3
  go_wp2_with fail
  refine HPB.out.mono ?_
  rintro e w5 ⟨rfl, K5, h5⟩
  have HN := hide h5
  clear h5 HPB
  go_wp2
  (try simp only [Exit.inBlock, Exit.then])
  refine bodyPost_end (results_none rfl _ _ _) rfl ?_
  exact ⟨rfl, K5, HN.out⟩
end Go.Proofs.YtfoglaajnlbnbaaGreatDoor

namespace Go.Proofs.YtfoglaajnlbnbaaGreatDoor
open Go.RowKit Go.Maps
set_option maxRecDepth 20000
set_option linter.unusedVariables false
set_option linter.unusedSimpArgs false

def wtE (R : List Tk) (l : List Int) (k : Int) : Int := if 16777216 < l.length then 1 else if k ≠ 0 ∧ k ≠ 1 ∧ k ≠ 2 then 103 else if sdE R ≠ 0 then sdE R else if (l.length : Int) ≠ sdN R then 101 else 0

set_option maxHeartbeats 8000000 in
theorem hblockWrite {W w : World} {xs : List ((Nat → Nat) × Thing)} (H : Herd W w xs) (i : Nat) {K : Nat → Nat} {g : Nat} {row : List Int} (hi : xs[i]? = some (K, tw g row)) (v : Value) (R : List Tk) (hR : Rdy W xs v R) (hn : R.length ≤ 5864062014805) (hb : ∀ t ∈ R, Bt t) (vr : Value) (l : List Int) (hl : Rdb W xs vr l) (hB : Byt l) (k : Int) (f : Bool) (T : Ltab W ∧ Dtab W) (TH : Tab W) (O : Odr W) :
    Calls Tryz.prog 9 #[.pointer (some ⟨g, 0, none⟩), v, vr, .int .i64 k, .bool f] w fun e w' => (wtE R l k ≠ 0 ∧ e = .returned (.int .i64 (wtE R l k)) ∧ Herd W w' xs) ∨ (wtE R l k = 0 ∧ e = .returned (.int .i64 (joinE row (blkB k.toNat f R l row.length))) ∧ ∃ K', Herd W w' (xs.set i (K', tw g (joinRow row (blkB k.toNat f R l row.length))))) := by
  have HH := hide H
  have HRD := hide hR
  have HBT := hide hb
  have HSR := hide hl
  have HBY := hide hB
  have HT := hide T
  have HTH := hide TH
  have HO := hide O
  have HI := hide hi
  have hSK := hR w [] (by simpa using H)
  have HSD := hide (said_any v R w hSK hn)
  have HBIT := hide (H.bit i hi)
  obtain ⟨ao, cap, rfl, hlc, hcm⟩ := hSK.open
  obtain ⟨ar, cr, rfl, hlr, hcr, -⟩ := hl w [] (by simpa using H)
  unfold maxLen at hcr
  obtain ⟨N, HN⟩ : ∃ N : Nat, Hid (N = l.length) := ⟨_, rfl⟩
  have HSN : Hid (Rdb W xs (.slice ar N cr) l) := by rw [HN.out]; exact HSR
  rw [← HN.out] at hlr ⊢
  clear hSK H hR hb hB T TH O HSR hl
  by_cases c0 : 16777216 < (N : Int)
  · have HE : Hid (wtE R l k = 1) := by show _ = _; unfold wtE; rw [if_pos (by rw [← HN.out]; omega)]
    go_enter Tryz.func9, Tryz.ntmps9
    go_wp2
    go_ret
    exact .inl ⟨by rw [HE.out]; decide, by rw [HE.out]; rfl, HH.out⟩
  have HE1 : Hid (¬ 16777216 < l.length) := by show ¬ _; rw [← HN.out]; omega
  by_cases ck : k = 0 ∨ k = 1 ∨ k = 2
  case neg =>
    have k0 : (k != 0) = true := by simp; omega
    have k1 : (k != 1) = true := by simp; omega
    have k2 : (k != 2) = true := by simp; omega
    have HE : Hid (wtE R l k = 103) := by show _ = _; unfold wtE; rw [if_neg HE1.out, if_pos (by omega)]
    clear ck
    go_enter Tryz.func9, Tryz.ntmps9
    go_wp2
    go_ret
    exact .inl ⟨by rw [HE.out]; decide, by rw [HE.out]; rfl, HH.out⟩
  have HE2 : Hid (¬ (k ≠ 0 ∧ k ≠ 1 ∧ k ≠ 2)) := by show ¬ _; omega
  obtain ⟨sE, HSE⟩ : ∃ x, Hid (x = sdE R) := ⟨_, rfl⟩
  obtain ⟨sN, HSNN⟩ : ∃ x, Hid (x = sdN R) := ⟨_, rfl⟩
  rw [← HSE.out, ← HSNN.out] at HSD
  by_cases ce : sE = 0
  case neg =>
    have ce' : (sE != 0) = true := by simpa using ce
    have HE : Hid (wtE R l k = sE ∧ sE ≠ 0) := by refine ⟨?_, ce⟩; unfold wtE; rw [if_neg HE1.out, if_neg HE2.out, if_pos (by rw [← HSE.out]; exact ce), ← HSE.out]
    rcases ck with rfl | rfl | rfl
    all_goals
      go_enter Tryz.func9, Tryz.ntmps9
      go_wp2_with fail
      refine HSD.out.mono ?_
      rintro e w1 ⟨rfl, b1⟩
      have HB1 := hide b1
      clear b1
      go_wp2
      go_ret
      exact .inl ⟨by rw [HE.out.1]; exact HE.out.2, by rw [HE.out.1]; rfl, HH.out.below HB1.out⟩
  subst ce
  by_cases cn : (N : Int) = sN
  case neg =>
    have cn' : ((N : Int) != sN) = true := by simpa using cn
    have HE : Hid (wtE R l k = 101) := by show _ = _; unfold wtE; rw [if_neg HE1.out, if_neg HE2.out, if_neg (by rw [← HSE.out]; simp), if_pos (by rw [← HN.out, ← HSNN.out]; exact cn)]
    rcases ck with rfl | rfl | rfl
    all_goals
      go_enter Tryz.func9, Tryz.ntmps9
      go_wp2_with fail
      refine HSD.out.mono ?_
      rintro e w1 ⟨rfl, b1⟩
      have HB1 := hide b1
      clear b1
      go_wp2
      go_ret
      exact .inl ⟨by rw [HE.out]; decide, by rw [HE.out]; rfl, HH.out.below HB1.out⟩
  have HE : Hid (wtE R l k = 0) := by show _ = _; unfold wtE; rw [if_neg HE1.out, if_neg HE2.out, if_neg (by rw [← HSE.out]; simp), if_neg (by rw [← HN.out, ← HSNN.out]; simp [cn])]
  obtain ⟨d1, d2, d3, d4, d5⟩ := sd_ok HSE.out.symm
  have HLS : Hid ((l.length : Int) = lsay R) := by show _ = _; rw [← HN.out, cn, HSNN.out, d2]
  have hN65 : N ≤ 65535 := by have := HLS.out; rw [← HN.out] at this; omega
  have HAS := hide d1
  have HALL := hide (asnd_all10 d1 HBT.out)
  have HR65 : Hid (R.length ≤ 65535) := d5
  have cn' : ((N : Int) != sN) = false := by simpa using cn
  obtain ⟨Z, HZ⟩ : ∃ Z : Nat, Hid (Z = row.length) := ⟨_, rfl⟩
  have hZ : Z ≤ 268435456 := by rw [HZ.out]; exact HBIT.out.2
  obtain ⟨xl, hxl⟩ : ∃ n, xs.length = n := ⟨_, rfl⟩
  have HIL : Hid (i < xs.length) := (List.getElem?_eq_some_iff.1 hi).1
  have HJN : Hid (∀ (wx : World) (gb : Nat) (Kb : Nat → Nat) (blk : List Int), Herd W wx (xs ++ [(Kb, tw gb blk)]) → Calls Tryz.prog 33 #[.pointer (some ⟨g, 0, none⟩), .pointer (some ⟨gb, 0, none⟩)] wx fun e w' => e = .returned (.int .i64 (joinE row blk)) ∧ ∃ K', Herd W w' (xs.set i (K', tw g (joinRow row blk)))) := fun wx gb Kb blk hx => by
    have hl := HIL.out
    refine (hjoin hx i xs.length (by rw [List.getElem?_append_left hl]; exact HI.out) (at_l0 _ _ _) (by omega)).mono ?_
    rintro e w7 ⟨rfl, K7, h7⟩
    rw [List.set_append_left _ _ hl] at h7
    exact ⟨rfl, K7, h7.front⟩
  clear d1 d2 d3 d4 d5 cn hi
  rcases ck with rfl | rfl | rfl
  · -- stored
    go_enter Tryz.func9, Tryz.ntmps9
    go_wp2_with fail
    refine HSD.out.mono ?_
    rintro e w1 ⟨rfl, b1⟩
    have HST := hide (hstart (HH.out.below b1) 0 (by omega) f)
    clear b1 HSD
    go_wp2_with fail
    refine HST.out.mono ?_
    rintro e w2 ⟨gb, Kb, rfl, h2⟩
    have HLEN : Hid (Calls Tryz.prog 12 #[.pointer (some ⟨g, 0, none⟩)] w2 fun e w' => e = .returned (.int .i64 (Z : Int)) ∧ Herd W w' (xs ++ [(Kb, tw gb (hd3 (0 : Nat) f))])) := by
      rw [HZ.out]
      exact hlen h2 i (by rw [List.getElem?_append_left HIL.out]; exact HI.out)
    clear h2 HST
    go_wp2_with fail
    refine HLEN.out.mono ?_
    rintro e w3 ⟨rfl, h3⟩
    have HPR := hide (hputRaw h3 _ l HSN.out HBY.out (by rw [← HN.out]; exact hN65) (by rw [hd3_len]; omega) (Z : Int) (by omega) (by omega))
    clear h3 HLEN
    go_wp2_with fail
    refine HPR.out.mono ?_
    rintro e w4 ⟨rfl, K4, h4⟩
    have HBK : Hid (hd3 (0 : Nat) f ++ rawB l (Z : Int) = blkB (0 : Int).toNat f R l row.length) := by show _ = _; rw [HZ.out]; rfl
    have HJ := hide (HJN.out w4 gb K4 _ h4)
    rw [HBK.out] at HJ
    clear h4 HPR
    go_wp2_with fail
    refine HJ.out.mono ?_
    rintro e w5 ⟨rfl, K5, h5⟩
    have HF := hide h5
    clear h5 HJ
    go_wp2
    go_ret
    exact .inr ⟨HE.out, rfl, K5, HF.out⟩
  · -- fixed
    go_enter Tryz.func9, Tryz.ntmps9
    go_wp2_with fail
    refine HSD.out.mono ?_
    rintro e w1 ⟨rfl, b1⟩
    have HST := hide (hstart (HH.out.below b1) 1 (by omega) f)
    clear b1 HSD
    go_wp2_with fail
    refine HST.out.mono ?_
    rintro e w2 ⟨gb, Kb, rfl, h2⟩
    have HFX := hide (fixed_any w2)
    have HH2 := hide h2
    clear h2 HST
    go_wp2_with fail
    refine HFX.out.mono ?_
    rintro e w3 ⟨a1, q1, a2, q2, rfl, s1, s2, b3⟩
    have HPB := hide (hputBody (HH2.out.below b3) _ R HRD.out a1 a2 288 q1 32 q2 (fxL 288) (List.replicate 32 5) s1 s2 HR65.out HALL.out (fun i => ⟨(fx_get i).1, (fx_get i).2.1⟩) (fun i => ⟨(f5_get i).1, (f5_get i).2.1⟩) fx_code.1 fx_code.2 (fx_wds HALL.out) (by rw [hd3_len]; omega) HT.out)
    clear s1 s2 b3 HFX HH2
    go_wp2_with fail
    refine HPB.out.mono ?_
    rintro e w4 ⟨rfl, K4, h4⟩
    have HBK : Hid (hd3 (1 : Nat) f ++ (bodB (fxL 288) (List.replicate 32 5) R ++ wb (fxL 288) 256) = blkB (1 : Int).toNat f R l row.length) := by show _ = _; rfl
    have HJ := hide (HJN.out w4 gb K4 _ h4)
    rw [HBK.out] at HJ
    clear h4 HPB
    go_wp2_with fail
    refine HJ.out.mono ?_
    rintro e w5 ⟨rfl, K5, h5⟩
    have HF := hide h5
    clear h5 HJ
    go_wp2
    go_ret
    exact .inr ⟨HE.out, rfl, K5, HF.out⟩
  · -- dynamic
    go_enter Tryz.func9, Tryz.ntmps9
    go_wp2_with fail
    refine HSD.out.mono ?_
    rintro e w1 ⟨rfl, b1⟩
    have HST := hide (hstart (HH.out.below b1) 2 (by omega) f)
    clear b1 HSD
    go_wp2_with fail
    refine HST.out.mono ?_
    rintro e w2 ⟨gb, Kb, rfl, h2⟩
    have HPD := hide (hputDynamic h2 _ R HRD.out HR65.out HAS.out HBT.out (by rw [hd3_len]; omega) HT.out HTH.out HO.out)
    clear h2 HST
    go_wp2_with fail
    refine HPD.out.mono ?_
    rintro e w4 ⟨rfl, K4, h4⟩
    have HBK : Hid (hd3 (2 : Nat) f ++ hdrB (lmL (ctL R) 15) (lmL (ctD R) 15) ++ (bodB (lmL (ctL R) 15) (lmL (ctD R) 15) R ++ wb (lmL (ctL R) 15) 256) = blkB (2 : Int).toNat f R l row.length) := by show _ = _; rfl
    have HJ := hide (HJN.out w4 gb K4 _ h4)
    rw [HBK.out] at HJ
    clear h4 HPD
    go_wp2_with fail
    refine HJ.out.mono ?_
    rintro e w5 ⟨rfl, K5, h5⟩
    have HF := hide h5
    clear h5 HJ
    go_wp2
    go_ret
    exact .inr ⟨HE.out, rfl, K5, HF.out⟩
end Go.Proofs.YtfoglaajnlbnbaaGreatDoor

