import Derived.Test.YtegoienjikjhkaaDoorGA26
import Derived.Test.YtegoienjikjhkaaDoorGA02
import Derived.Test.YtegoienjikjhkaaDoorGMks
import Derived.Test.YtegoienjikjhkaaDoorGA03
namespace Go.Proofs.YtegoienjikjhkaaDoor
open Go.RowKit Go.Maps
set_option maxRecDepth 20000

/-- Something in memory, with the blocks that are its own. -/
structure Thing where
  P : World → (Nat → Nat) → Prop
  far : ∀ {w w' : World} {K : Nat → Nat}, P w K → w.heap.size ≤ w'.heap.size → (∀ k, K k ≠ 0 → w'.heap[k]? = w.heap[k]?) → P w' K
  sup : ∀ {w : World} {K : Nat → Nat}, P w K → ∀ k, K k ≠ 0 → k < w.heap.size

/-- A writer of the program. -/
def tw (g : Nat) (row : List Int) : Thing := ⟨fun w K => Wp w K g row, fun h a b => h.far a b, fun h => h.sup⟩

/-- A reader of the program. -/
def tr (g : Nat) (row : List Int) (p : Nat) : Thing := ⟨fun w K => Rp w K g row p, fun h a b => h.far a b, fun h => h.sup⟩

/-- A list of bytes. -/
def tl (v : Value) (l : List Int) : Thing :=
  ⟨fun w K => OB w 0 v l ∧ (∀ k, v.ownBlock = some k → K k ≠ 0) ∧ ∀ k, K k ≠ 0 → k < w.heap.size,
   fun h a b => ⟨h.1.move fun k hk => b k (h.2.1 k hk), h.2.1, fun k hk => Nat.lt_of_lt_of_le (h.2.2 k hk) a⟩, fun h => h.2.2⟩

/-- A block. -/
def tb (g : Nat) (o : Obj) : Thing :=
  ⟨fun w K => w.heap[g]? = some o ∧ K g ≠ 0 ∧ ∀ k, K k ≠ 0 → k < w.heap.size,
   fun h a b => ⟨(b g h.2.1).trans h.1, h.2.1, fun k hk => Nat.lt_of_lt_of_le (h.2.2 k hk) a⟩, fun h => h.2.2⟩

structure Herd (W w : World) (xs : List ((Nat → Nat) × Thing)) : Prop where
  bel : Below W.heap.size W w
  rep : ∀ (i : Nat) (d : (Nat → Nat) × Thing), xs[i]? = some d → d.2.P w d.1
  up : ∀ (i : Nat) (d : (Nat → Nat) × Thing), xs[i]? = some d → ∀ k, d.1 k ≠ 0 → W.heap.size ≤ k
  sep : ∀ (i j : Nat) (d e : (Nat → Nat) × Thing), xs[i]? = some d → xs[j]? = some e → i ≠ j → ∀ k, d.1 k ≠ 0 → e.1 k = 0

theorem Thing.zero {x : Thing} {w : World} {K : Nat → Nat} (h : x.P w K) {k : Nat} (hk : w.heap.size ≤ k) : K k = 0 := by
  by_cases e : K k = 0
  · exact e
  · have := x.sup h k e; omega

theorem get_set {α : Type} {l : List α} {x y : α} {i j : Nat} (h : (l.set j x)[i]? = some y) : (i ≠ j ∧ l[i]? = some y) ∨ (i = j ∧ y = x) := by
  by_cases e : j = i
  · subst e
    rw [List.getElem?_set_self'] at h
    obtain ⟨u, hu, e⟩ := Option.map_eq_some_iff.1 h
    exact .inr ⟨rfl, e.symm⟩
  · rw [List.getElem?_set_ne e] at h
    exact .inl ⟨fun e2 => e e2.symm, h⟩

theorem Herd.nil (W : World) : Herd W W [] := ⟨Below.refl _ _, (fun i d hd => by simp at hd), (fun i d hd => by simp at hd), (fun i j d e hd => by simp at hd)⟩

theorem Herd.below {W w w' : World} {xs : List ((Nat → Nat) × Thing)} (h : Herd W w xs) (hb : Below w.heap.size w w') : Herd W w' xs :=
  ⟨h.bel.trans (hb.mono h.bel.size), fun i d hd => d.2.far (h.rep i d hd) hb.size fun k hk => hb.block k (d.2.sup (h.rep i d hd) k hk), h.up, h.sep⟩

theorem Herd.drewN {W w : World} {xs : List ((Nat → Nat) × Thing)} (h : Herd W w xs) (n : Nat) : Herd W (w.drewN n) xs := h.below (below_drewN (Below.refl _ _) n)

theorem Herd.op {W w w' : World} {xs : List ((Nat → Nat) × Thing)} (h : Herd W w xs) (n : Nat) {K K' : Nat → Nat} {x x' : Thing} (hn : xs[n]? = some (K, x)) (hr : x'.P w' K') (hF : Fr K K' w w') : Herd W w' (xs.set n (K', x')) := by
  have hs := h.bel.size
  have hup := h.up n _ hn
  refine ⟨h.bel.trans (hF.below hup hs), fun i d hd => ?_, fun i d hd k hk => ?_, fun i j d e hd he hne k hk => ?_⟩
  · rcases get_set hd with ⟨hne, hd⟩ | ⟨_, rfl⟩
    · exact d.2.far (h.rep i d hd) hF.size fun k hk => hF.block k (d.2.sup (h.rep i d hd) k hk) (h.sep i n d _ hd hn hne k hk)
    · exact hr
  · rcases get_set hd with ⟨hne, hd⟩ | ⟨_, rfl⟩
    · exact h.up i d hd k hk
    · exact hF.up hup hs k hk
  · rcases get_set hd with ⟨hn1, hd⟩ | ⟨e1, rfl⟩
    · rcases get_set he with ⟨hn2, he⟩ | ⟨e2, rfl⟩
      · exact h.sep i j d e hd he hne k hk
      · exact (hF.role k (d.2.sup (h.rep i d hd) k hk)).trans (h.sep i n d _ hd hn hn1 k hk)
    · rcases get_set he with ⟨hn2, he⟩ | ⟨e2, rfl⟩
      · by_cases hl : k < w.heap.size
        · exact h.sep n j _ e hn he (fun e3 => hn2 e3.symm) k (fun e0 => hk ((hF.role k hl).trans e0))
        · exact Thing.zero (h.rep j e he) (by omega)
      · omega

theorem get_snoc {α : Type} {l : List α} {x y : α} {i : Nat} (h : (l ++ [x])[i]? = some y) : (l[i]? = some y) ∨ (i = l.length ∧ y = x) := by
  by_cases hi : i < l.length
  · rw [List.getElem?_append_left hi] at h
    exact .inl h
  · rw [List.getElem?_append_right (by omega)] at h
    have := (List.getElem?_eq_some_iff.1 h).1
    simp at this
    have e : i = l.length := by omega
    subst e
    simp at h
    exact .inr ⟨rfl, h.symm⟩

theorem Herd.push {W w w' : World} {xs : List ((Nat → Nat) × Thing)} (h : Herd W w xs) (hb : Below w.heap.size w w') {K : Nat → Nat} {x : Thing} (hr : x.P w' K) (hu : ∀ k, K k ≠ 0 → w.heap.size ≤ k) : Herd W w' (xs ++ [(K, x)]) := by
  have h' := h.below hb
  have hs := h.bel.size
  refine ⟨h'.bel, fun i d hd => ?_, fun i d hd k hk => ?_, fun i j d e hd he hne k hk => ?_⟩
  · rcases get_snoc hd with hd | ⟨_, rfl⟩
    · exact h'.rep i d hd
    · exact hr
  · rcases get_snoc hd with hd | ⟨_, rfl⟩
    · exact h.up i d hd k hk
    · have := hu k hk; omega
  · rcases get_snoc hd with hd | ⟨e1, rfl⟩
    · rcases get_snoc he with he | ⟨e2, rfl⟩
      · exact h.sep i j d e hd he hne k hk
      · by_cases e0 : K k = 0
        · exact e0
        · exact absurd (Thing.zero (h.rep i d hd) (hu k e0)) hk
    · rcases get_snoc he with he | ⟨e2, rfl⟩
      · exact Thing.zero (h.rep j e he) (hu k hk)
      · omega

/-- A list just made comes in. -/
theorem Herd.list {W w w' : World} {xs : List ((Nat → Nat) × Thing)} (h : Herd W w xs) (hb : Below w.heap.size w w') {v : Value} {l : List Int} (ho : OB w' w.heap.size v l) : ∃ K, Herd W w' (xs ++ [(K, tl v l)]) := by
  refine ⟨fun k => if v.ownBlock = some k then 1 else 0, h.push hb ⟨ho.base (Nat.zero_le _), fun k hk => by simp [hk], fun k hk => ?_⟩ fun k hk => ?_⟩
  · by_cases e : v.ownBlock = some k
    · exact (ho.lt k e).2
    · simp [e] at hk
  · by_cases e : v.ownBlock = some k
    · exact (ho.lt k e).1
    · simp [e] at hk

theorem hnewW {W w : World} {xs : List ((Nat → Nat) × Thing)} (H : Herd W w xs) : Calls Tryd.prog 6 #[] w fun e w' => ∃ g K, e = .returned (.pointer (some ⟨g, 0, none⟩)) ∧ Herd W w' (xs ++ [(K, tw g [])]) := by
  refine (newWriter_any w).mono ?_
  rintro e w1 ⟨g, K, rfl, hW, hn, hb⟩
  exact ⟨g, K, rfl, H.push hb hW hn⟩

theorem hput {W w : World} {xs : List ((Nat → Nat) × Thing)} (H : Herd W w xs) (i : Nat) {K : Nat → Nat} {g : Nat} {row : List Int} (hi : xs[i]? = some (K, tw g row)) (v n : Int) (hv : 0 ≤ v) (hv1 : v < 4294967296) :
    Calls Tryd.prog 54 #[.pointer (some ⟨g, 0, none⟩), .int .u32 v, .int .i64 n] w fun e w' => e = .returned (.int .i64 (putE row v n)) ∧ ∃ K', Herd W w' (xs.set i (K', tw g (putRow row v n))) := by
  have hw : Wp w K g row := H.rep i _ hi
  refine (wput_any hw v n hv hv1).mono ?_
  rintro e w1 ⟨rfl, K', h1, h2⟩
  exact ⟨rfl, K', H.op i hi (x' := tw g (putRow row v n)) h1 h2⟩

theorem hlen {W w : World} {xs : List ((Nat → Nat) × Thing)} (H : Herd W w xs) (i : Nat) {K : Nat → Nat} {g : Nat} {row : List Int} (hi : xs[i]? = some (K, tw g row)) :
    Calls Tryd.prog 50 #[.pointer (some ⟨g, 0, none⟩)] w fun e w' => e = .returned (.int .i64 row.length) ∧ Herd W w' xs := by
  have hw : Wp w K g row := H.rep i _ hi
  refine (wlen_any hw).mono ?_
  rintro e w1 ⟨rfl, n, rfl⟩
  exact ⟨rfl, H.drewN n⟩

theorem hbytes {W w : World} {xs : List ((Nat → Nat) × Thing)} (H : Herd W w xs) (i : Nat) {K : Nat → Nat} {g : Nat} {row : List Int} (hi : xs[i]? = some (K, tw g row)) :
    Calls Tryd.prog 16 #[.pointer (some ⟨g, 0, none⟩)] w fun e w' => ∃ a c K', e = .returned (.slice a (pack row).length c) ∧ Herd W w' (xs ++ [(K', tl (.slice a (pack row).length c) (pack row))]) := by
  have hw : Wp w K g row := H.rep i _ hi
  refine (wbytes_any hw).mono ?_
  rintro e w1 ⟨a, c, rfl, h1, h2⟩
  obtain ⟨K', h3⟩ := H.list h2 h1
  exact ⟨a, c, K', rfl, h3⟩

theorem Herd.sb {W w : World} {xs : List ((Nat → Nat) × Thing)} (H : Herd W w xs) (i : Nat) {K : Nat → Nat} {v : Value} {l : List Int} (hi : xs[i]? = some (K, tl v l)) : SB w v l := by
  have h : (tl v l).P w K := H.rep i _ hi
  exact h.1.sb

theorem Herd.bit {W w : World} {xs : List ((Nat → Nat) × Thing)} (H : Herd W w xs) (i : Nat) {K : Nat → Nat} {g : Nat} {row : List Int} (hi : xs[i]? = some (K, tw g row)) : Bit row ∧ row.length ≤ 268435456 := by
  have h : Wp w K g row := H.rep i _ hi
  exact ⟨h.bit, h.top⟩

theorem hnewR {W w : World} {xs : List ((Nat → Nat) × Thing)} (H : Herd W w xs) (u : Value) (l : List Int) (h : SB w u l) (hB : Byt l) (hl : l.length ≤ 33554432) :
    Calls Tryd.prog 15 #[u] w fun e w' => ∃ g K, e = .returned (.pointer (some ⟨g, 0, none⟩)) ∧ Herd W w' (xs ++ [(K, tr g (unpack l) 0)]) := by
  refine (newReader_any u l w h hB hl).mono ?_
  rintro e w1 ⟨g, K, rfl, hR, hn, hb⟩
  exact ⟨g, K, rfl, H.push hb hR hn⟩

theorem htake {W w : World} {xs : List ((Nat → Nat) × Thing)} (H : Herd W w xs) (i : Nat) {K : Nat → Nat} {g : Nat} {row : List Int} {p : Nat} (hi : xs[i]? = some (K, tr g row p)) (n : Int) :
    Calls Tryd.prog 58 #[.pointer (some ⟨g, 0, none⟩), .int .i64 n] w fun e w' => e = .returned (.tuple #[.int .u32 (takeV row p n), .int .i64 (takeE row p n)]) ∧ Herd W w' (xs.set i (K, tr g row (takeP row p n))) := by
  have hw : Rp w K g row p := H.rep i _ hi
  refine (rdtake_any hw n).mono ?_
  rintro e w1 ⟨rfl, h1, h2⟩
  exact ⟨rfl, H.op i hi (x' := tr g row (takeP row p n)) h1 h2⟩

theorem hpeek {W w : World} {xs : List ((Nat → Nat) × Thing)} (H : Herd W w xs) (i : Nat) {K : Nat → Nat} {g : Nat} {row : List Int} {p : Nat} (hi : xs[i]? = some (K, tr g row p)) (n : Int) :
    Calls Tryd.prog 86 #[.pointer (some ⟨g, 0, none⟩), .int .i64 n] w fun e w' => e = .returned (.tuple #[.int .u32 (peekV row p n), .int .i64 (peekK row p n)]) ∧ Herd W w' xs := by
  have hw : Rp w K g row p := H.rep i _ hi
  refine (rdpeek_any hw n).mono ?_
  rintro e w1 ⟨rfl, q, rfl⟩
  exact ⟨rfl, H.drewN q⟩

theorem hskip {W w : World} {xs : List ((Nat → Nat) × Thing)} (H : Herd W w xs) (i : Nat) {K : Nat → Nat} {g : Nat} {row : List Int} {p : Nat} (hi : xs[i]? = some (K, tr g row p)) (n : Int) :
    Calls Tryd.prog 88 #[.pointer (some ⟨g, 0, none⟩), .int .i64 n] w fun e w' => e = .returned (.int .i64 (skipE row p n)) ∧ Herd W w' (xs.set i (K, tr g row (skipP row p n))) := by
  have hw : Rp w K g row p := H.rep i _ hi
  refine (rdskip_any hw n).mono ?_
  rintro e w1 ⟨rfl, h1, h2⟩
  exact ⟨rfl, H.op i hi (x' := tr g row (skipP row p n)) h1 h2⟩

theorem hleft {W w : World} {xs : List ((Nat → Nat) × Thing)} (H : Herd W w xs) (i : Nat) {K : Nat → Nat} {g : Nat} {row : List Int} {p : Nat} (hi : xs[i]? = some (K, tr g row p)) :
    Calls Tryd.prog 74 #[.pointer (some ⟨g, 0, none⟩)] w fun e w' => e = .returned (.int .i64 ((row.length : Int) - p)) ∧ Herd W w' xs := by
  have hw : Rp w K g row p := H.rep i _ hi
  refine (rdleft_any hw).mono ?_
  rintro e w1 ⟨rfl, q, rfl⟩
  exact ⟨rfl, H.drewN q⟩

theorem Herd.one {W w w' : World} {xs : List ((Nat → Nat) × Thing)} (h : Herd W w xs) (hb : Below w.heap.size w w') {K : Nat → Nat} {x : Thing} (hr : x.P w' K) (hu : ∀ k, K k ≠ 0 → w.heap.size ≤ k) : Herd W w' (xs ++ [(K, x)]) := h.push hb hr hu

end Go.Proofs.YtegoienjikjhkaaDoor

namespace Go.Proofs.YtegoienjikjhkaaDoor
open Go.RowKit Go.Maps
set_option maxRecDepth 20000

/-- A list of ints. -/
def ti (v : Value) (l : List Int) : Thing :=
  ⟨fun w K => OI w 0 v l ∧ (∀ k, v.ownBlock = some k → K k ≠ 0) ∧ ∀ k, K k ≠ 0 → k < w.heap.size,
   fun h a b => ⟨h.1.move fun k hk => b k (h.2.1 k hk), h.2.1, fun k hk => Nat.lt_of_lt_of_le (h.2.2 k hk) a⟩, fun h => h.2.2⟩

theorem Herd.ilist {W w w' : World} {xs : List ((Nat → Nat) × Thing)} (h : Herd W w xs) (hb : Below w.heap.size w w') {v : Value} {l : List Int} (ho : OI w' w.heap.size v l) : ∃ K, Herd W w' (xs ++ [(K, ti v l)]) := by
  refine ⟨fun k => if v.ownBlock = some k then 1 else 0, h.push hb ⟨ho.base (Nat.zero_le _), fun k hk => by simp [hk], fun k hk => ?_⟩ fun k hk => ?_⟩
  · by_cases e : v.ownBlock = some k
    · exact (ho.lt k e).2
    · simp [e] at hk
  · by_cases e : v.ownBlock = some k
    · exact (ho.lt k e).1
    · simp [e] at hk

theorem Herd.isi {W w : World} {xs : List ((Nat → Nat) × Thing)} (H : Herd W w xs) (i : Nat) {K : Nat → Nat} {v : Value} {l : List Int} (hi : xs[i]? = some (K, ti v l)) : SI w v l := by
  have h : (ti v l).P w K := H.rep i _ hi
  exact h.1.sb

theorem Herd.ioi {W w : World} {xs : List ((Nat → Nat) × Thing)} (H : Herd W w xs) (i : Nat) {K : Nat → Nat} {v : Value} {l : List Int} (hi : xs[i]? = some (K, ti v l)) : OI w 0 v l := by
  have h : (ti v l).P w K := H.rep i _ hi
  exact h.1

theorem Herd.iput {W w : World} {xs : List ((Nat → Nat) × Thing)} (H : Herd W w xs) (i : Nat) {K : Nat → Nat} {v : Value} {l : List Int} (hi : xs[i]? = some (K, ti v l)) {k : Nat} (hk : k < l.length) (m : Int) :
    ∃ g c, v = .slice (some ⟨g, 0, none⟩) l.length c ∧ (∃ u, w.cell? ⟨g, k, none⟩ = some u) ∧ w.frozen? ⟨g, k, none⟩ = false ∧ Herd W (w.setCell ⟨g, k, none⟩ (.int .i64 m)) (xs.set i (K, ti v (l.set k m))) := by
  have h : (ti v l).P w K := H.rep i _ hi
  obtain ⟨g, c, hv, h1, h2, h3⟩ := h.1.put hk m
  have hg : K g ≠ 0 := h.2.1 g (by rw [hv]; rfl)
  exact ⟨g, c, hv, h1, h2, H.op i hi (x' := ti v (l.set k m)) ⟨h3, h.2.1, fun k hk => by rw [size_setCell]; exact h.2.2 k hk⟩ ⟨rfl, rfl, rfl, by rw [size_setCell]; exact Nat.le_refl _, fun b _ h0 => setCell_others _ _ _ _ _ (fun e => hg (by rw [← e]; exact h0)), fun _ _ => rfl⟩⟩

def mk3 : List Int := [-71, -72, -73]

/-- A list with three marks behind it. -/
def Framed (w : World) (base : Nat) (v : Value) (l : List Int) : Prop := OI w base v (l ++ mk3)

theorem length_fr (l : List Int) : (l ++ mk3).length = l.length + 3 := by rw [List.length_append]; rfl

theorem Framed.form {w : World} {base : Nat} {v : Value} {l : List Int} (h : Framed w base v l) : ∃ g c, v = .slice (some ⟨g, 0, none⟩) (l.length + 3) c ∧ base ≤ g ∧ g < w.heap.size ∧ l.length + 3 ≤ c ∧ c ≤ 9223372036854775807 ∧ SI w (.slice (some ⟨g, 0, none⟩) l.length c) l := by
  obtain ⟨g, c, hv, h1, h2, h3, h4⟩ := OI.form h (by rw [length_fr]; omega)
  rw [length_fr] at hv h3
  have hf := h
  unfold Framed at hf
  rw [hv] at hf
  exact ⟨g, c, hv, h1, h2, h3, h4, OI.front (r := mk3) (by rw [length_fr]; exact hf)⟩

end Go.Proofs.YtegoienjikjhkaaDoor

namespace Go.Proofs.YtegoienjikjhkaaDoor
open Go.RowKit Go.Maps
set_option maxRecDepth 20000
set_option linter.unusedVariables false

/-- A list of runs. -/
def trr (v : Value) (R : List Rn) : Thing :=
  ⟨fun w K => OR w 0 v R ∧ (∀ k, v.ownBlock = some k → K k ≠ 0) ∧ ∀ k, K k ≠ 0 → k < w.heap.size,
   fun h a b => ⟨rown_move h.1 fun k hk => b k (h.2.1 k hk), h.2.1, fun k hk => Nat.lt_of_lt_of_le (h.2.2 k hk) a⟩, fun h => h.2.2⟩

/-- The blocks of one list. -/
def kOf (v : Value) : Nat → Nat := fun k => if v.ownBlock = some k then 1 else 0

theorem kOf_iff {v : Value} {k : Nat} : kOf v k ≠ 0 ↔ v.ownBlock = some k := by
  unfold kOf
  by_cases e : v.ownBlock = some k
  · simp [e]
  · simp [e]

theorem kOf_zero {v : Value} {k : Nat} (h : v.ownBlock ≠ some k) : kOf v k = 0 := by
  unfold kOf
  rw [if_neg h]

/-- Several things that were just made come in together. -/
theorem Herd.pushs {W w w' : World} {xs ys : List ((Nat → Nat) × Thing)} (h : Herd W w xs) (hb : Below w.heap.size w w') (hr : ∀ (i : Nat) (d : (Nat → Nat) × Thing), ys[i]? = some d → d.2.P w' d.1 ∧ ∀ k, d.1 k ≠ 0 → w.heap.size ≤ k)
    (hs : ∀ (i j : Nat) (d e : (Nat → Nat) × Thing), ys[i]? = some d → ys[j]? = some e → i ≠ j → ∀ k, d.1 k ≠ 0 → e.1 k = 0) : Herd W w' (xs ++ ys) := by
  have h' := h.below hb
  have hsz := h.bel.size
  have sp : ∀ (i : Nat) (d : (Nat → Nat) × Thing), (xs ++ ys)[i]? = some d → (xs[i]? = some d ∧ i < xs.length) ∨ (∃ j, ys[j]? = some d ∧ i = xs.length + j) := fun i d hd => by
    by_cases hi : i < xs.length
    · rw [List.getElem?_append_left hi] at hd; exact .inl ⟨hd, hi⟩
    · rw [List.getElem?_append_right (by omega)] at hd; exact .inr ⟨i - xs.length, hd, by omega⟩
  refine ⟨h'.bel, fun i d hd => ?_, fun i d hd k hk => ?_, fun i j d e hd he hne k hk => ?_⟩
  · rcases sp i d hd with ⟨q, _⟩ | ⟨j, q, _⟩
    · exact h'.rep i d q
    · exact (hr j d q).1
  · rcases sp i d hd with ⟨q, _⟩ | ⟨j, q, _⟩
    · exact h.up i d q k hk
    · have := (hr j d q).2 k hk; omega
  · rcases sp i d hd with ⟨q, qi⟩ | ⟨i', q, qi⟩ <;> rcases sp j e he with ⟨r, rj⟩ | ⟨j', r, rj⟩
    · exact h.sep i j d e q r hne k hk
    · by_cases e0 : e.1 k = 0
      · exact e0
      · exact absurd (Thing.zero (h.rep i d q) ((hr j' e r).2 k e0)) hk
    · exact Thing.zero (h.rep j e r) ((hr i' d q).2 k hk)
    · exact hs i' j' d e q r (by omega) k hk

theorem ti_of {w : World} {B : Nat} {v : Value} {l : List Int} (h : OI w B v l) : (ti v l).P w (kOf v) :=
  ⟨h.base (Nat.zero_le _), fun k hk => kOf_iff.2 hk, fun k hk => (h.lt k (kOf_iff.1 hk)).2⟩

theorem tr_of {w : World} {B : Nat} {v : Value} {R : List Rn} (h : OR w B v R) : (trr v R).P w (kOf v) :=
  ⟨h.base (Nat.zero_le _), fun k hk => kOf_iff.2 hk, fun k hk => (h.lt k (kOf_iff.1 hk)).2⟩

/-- Make's four lists come in. -/
theorem Herd.make4 {W w w' : World} {xs : List ((Nat → Nat) × Thing)} (h : Herd W w xs) (hb : Below w.heap.size w w') {vL vD vC vR : Value} {L D C : List Int} {R : List Rn} (hm : Mkd w' w.heap.size vL vD vC vR L D C R) (hs : Sp4 vL vD vC vR) :
    Herd W w' (xs ++ [(kOf vL, ti vL L), (kOf vD, ti vD D), (kOf vC, ti vC C), (kOf vR, trr vR R)]) := by
  refine h.pushs hb (fun i d hd => ?_) (fun i j d e hd he hne k hk => ?_)
  · rcases i with _ | _ | _ | _ | i
    · simp only [List.getElem?_cons_zero, Option.some.injEq] at hd; subst hd
      exact ⟨ti_of hm.l, fun k hk => (hm.l.lt k (kOf_iff.1 hk)).1⟩
    · simp only [List.getElem?_cons_succ, List.getElem?_cons_zero, Option.some.injEq] at hd; subst hd
      exact ⟨ti_of hm.d, fun k hk => (hm.d.lt k (kOf_iff.1 hk)).1⟩
    · simp only [List.getElem?_cons_succ, List.getElem?_cons_zero, Option.some.injEq] at hd; subst hd
      exact ⟨ti_of hm.c, fun k hk => (hm.c.lt k (kOf_iff.1 hk)).1⟩
    · simp only [List.getElem?_cons_succ, List.getElem?_cons_zero, Option.some.injEq] at hd; subst hd
      exact ⟨tr_of hm.r, fun k hk => (hm.r.lt k (kOf_iff.1 hk)).1⟩
    · simp at hd
  · have back : ∀ {u v : Value}, (∀ k, u.ownBlock = some k → v.ownBlock ≠ some k) → ∀ k, v.ownBlock = some k → u.ownBlock ≠ some k := fun q k hv hu => q k hu hv
    have key : ∀ {u v : Value}, (∀ k, u.ownBlock = some k → v.ownBlock ≠ some k) → kOf u k ≠ 0 → kOf v k = 0 := fun q hu => kOf_zero (q k (kOf_iff.1 hu))
    rcases i with _ | _ | _ | _ | i <;> rcases j with _ | _ | _ | _ | j <;> simp only [List.getElem?_cons_succ, List.getElem?_cons_zero, List.getElem?_nil, Option.some.injEq, reduceCtorEq] at hd he <;> try omega
    all_goals first | (exact absurd rfl hne) | (subst hd; subst he; first | exact key hs.ld hk | exact key hs.lc hk | exact key hs.lr hk | exact key hs.dc hk | exact key hs.dr hk | exact key hs.cr hk | exact key (back hs.ld) hk | exact key (back hs.lc) hk | exact key (back hs.lr) hk | exact key (back hs.dc) hk | exact key (back hs.dr) hk | exact key (back hs.cr) hk)

/-- A list of numbers comes in. -/
theorem Herd.il {W w w' : World} {xs : List ((Nat → Nat) × Thing)} (h : Herd W w xs) (hb : Below w.heap.size w w') {v : Value} {l : List Int} (ho : OI w' w.heap.size v l) : Herd W w' (xs ++ [(kOf v, ti v l)]) :=
  h.push hb (ti_of ho) fun k hk => (ho.lt k (kOf_iff.1 hk)).1

/-- A header's box in a herd. -/
theorem Herd.hx {W w : World} {xs : List ((Nat → Nat) × Thing)} (h : Herd W w xs) (i : Nat) {K : Nat → Nat} {g : Nat} {p q r s t : Value} {ty : TypeId} (hi : xs[i]? = some (K, tb g (.cells #[p, q, r, s, t] ty (0, 0)))) :
    w.cell? ⟨g, 0, none⟩ = some p ∧ w.cell? ⟨g, 1, none⟩ = some q ∧ w.cell? ⟨g, 2, none⟩ = some r ∧ w.cell? ⟨g, 3, none⟩ = some s ∧ w.cell? ⟨g, 4, none⟩ = some t := by
  have hp : w.heap[g]? = some (.cells #[p, q, r, s, t] ty (0, 0)) := (h.rep i _ hi).1
  refine ⟨?_, ?_, ?_, ?_, ?_⟩ <;> (unfold World.cell?; rw [hp]; rfl)

/-- A list of runs comes in. -/
theorem Herd.rlist {W w w' : World} {xs : List ((Nat → Nat) × Thing)} (h : Herd W w xs) (hb : Below w.heap.size w w') {v : Value} {R : List Rn} (ho : OR w' w.heap.size v R) : Herd W w' (xs ++ [(kOf v, trr v R)]) :=
  h.push hb (tr_of ho) fun k hk => (ho.lt k (kOf_iff.1 hk)).1

/-- A list with room behind its end. -/
def tro (v : Value) (l : List Int) : Thing :=
  ⟨fun w K => (OI w 0 v l ∧ Spare w v l.length) ∧ (∀ k, v.ownBlock = some k → K k ≠ 0) ∧ ∀ k, K k ≠ 0 → k < w.heap.size,
   fun h a b => by
     obtain ⟨⟨h1, g, hv, hc⟩, h2, h3⟩ := h
     refine ⟨⟨h1.move fun k hk => b k (h2 k hk), g, hv, fun j hj => ?_⟩, h2, fun k hk => Nat.lt_of_lt_of_le (h3 k hk) a⟩
     rw [World.cell?_of_block (b g (h2 g (by rw [hv]; rfl)))]
     exact hc j hj, fun h => h.2.2⟩

theorem Herd.room {W w w' : World} {xs : List ((Nat → Nat) × Thing)} (h : Herd W w xs) (hb : Below w.heap.size w w') {v : Value} {l : List Int} (ho : OI w' w.heap.size v l) (hs : Spare w' v l.length) : Herd W w' (xs ++ [(kOf v, tro v l)]) :=
  h.push hb ⟨⟨ho.base (Nat.zero_le _), hs⟩, fun k hk => kOf_iff.2 hk, fun k hk => (ho.lt k (kOf_iff.1 hk)).2⟩ fun k hk => (ho.lt k (kOf_iff.1 hk)).1

/-- A thing is a weaker one too. -/
theorem Herd.weak {W w : World} {xs : List ((Nat → Nat) × Thing)} (h : Herd W w xs) (n : Nat) {K : Nat → Nat} {x x' : Thing} (hn : xs[n]? = some (K, x)) (hx : x.P w K → x'.P w K) : Herd W w (xs.set n (K, x')) :=
  h.op n hn (hx (h.rep n _ hn)) (Fr.refl _ _)

/-- A box comes in. -/
theorem Herd.box {W w : World} {xs : List ((Nat → Nat) × Thing)} (h : Herd W w xs) (cs : Array Value) (t : TypeId) : Herd W (w.alloc (.cells cs t)) (xs ++ [((fun k => if k = w.heap.size then 1 else 0), tb w.heap.size (.cells cs t (0, 0)))]) :=
  h.push ((Below.refl _ _).alloc (Nat.le_refl _) _) ⟨heap_alloc_new w _, by simp, fun k hk => by
    by_cases e : k = w.heap.size
    · rw [e, size_alloc']; omega
    · simp [e] at hk⟩ fun k hk => by
    by_cases e : k = w.heap.size
    · omega
    · simp [e] at hk
end Go.Proofs.YtegoienjikjhkaaDoor

