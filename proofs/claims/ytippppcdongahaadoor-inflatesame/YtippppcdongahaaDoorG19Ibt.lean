import Derived.Test.YtippppcdongahaaDoorG18Ibn
import Derived.Test.YtippppcdongahaaDoorG14Ifj
namespace Go.Proofs.YtippppcdongahaaDoor
open Go.RowKit Go.Maps
set_option maxRecDepth 20000
set_option linter.unusedVariables false

/-! A text under way beside memory that another one changes between its blocks. -/

def wtake (w : World) (B : Nat) : World := { w with heap := w.heap.extract 0 B }
theorem wtake_size {w : World} {B : Nat} (h : B ≤ w.heap.size) : (wtake w B).heap.size = B := by
  show (w.heap.extract 0 B).size = B
  rw [Array.size_extract]; omega
theorem wtake_at {w : World} {B k : Nat} (hk : k < B) : (wtake w B).heap[k]? = w.heap[k]? := by
  show (w.heap.extract 0 B)[k]? = _
  rw [Array.getElem?_extract]
  by_cases h : k < w.heap.size
  · rw [if_pos (by omega)]; simp
  · rw [if_neg (by omega)]; exact (Array.getElem?_eq_none (by omega)).symm
theorem wtake_below {w : World} {B : Nat} (h : B ≤ w.heap.size) : Below B (wtake w B) w := ⟨rfl, rfl, rfl, by rw [wtake_size h]; exact h, fun k hk => (wtake_at hk).symm⟩
theorem below_wtake {w0 w : World} {B : Nat} (h : Below w0.heap.size w0 w) (h1 : w0.heap.size ≤ B) (h2 : B ≤ w.heap.size) : Below w0.heap.size w0 (wtake w B) :=
  ⟨h.os, h.tape, h.output, by rw [wtake_size h2]; exact h1, fun k hk => (wtake_at (by omega)).trans (h.block k hk)⟩

def tkp (w0 : World) : Thing :=
  ⟨fun w K => w0.heap.size ≤ w.heap.size ∧ (∀ k, K k ≠ 0 → w.heap[k]? = w0.heap[k]?) ∧ ∀ k, K k ≠ 0 → k < w.heap.size,
   fun h a b => ⟨Nat.le_trans h.1 a, fun k hk => (b k hk).trans (h.2.1 k hk), fun k hk => Nat.lt_of_lt_of_le (h.2.2 k hk) a⟩, fun h => h.2.2⟩

theorem tkp_td (w0 : World) (gl : Nat) (l : List Int) : tkp w0 ≠ td gl l := by
  intro e
  have h : (tkp w0).P { w0 with heap := Array.replicate w0.heap.size (.deferred none) } (fun _ => 0) :=
    ⟨by simp, fun k hk => absurd rfl hk, fun k hk => absurd rfl hk⟩
  rw [e] at h
  have hd : Dp { w0 with heap := Array.replicate w0.heap.size (.deferred none) } (fun _ => 0) gl l := h
  obtain ⟨vl, vw, vs, sy, a1, _⟩ := hd.d
  have a2 : (Array.replicate w0.heap.size (Obj.deferred none))[gl]? = _ := a1
  rw [Array.getElem?_replicate] at a2
  split at a2
  · injection a2 with a2; cases a2
  · cases a2

theorem Herd.guest {W w : World} {xs : List ((Nat → Nat) × Thing)} (h : Herd W w xs) {K : Nat → Nat} {x : Thing} (hr : x.P w K) (hu : ∀ k, K k ≠ 0 → W.heap.size ≤ k) (hx : ∀ d, d ∈ xs → ∀ k, d.1 k ≠ 0 → K k = 0) : Herd W w (xs ++ [(K, x)]) := by
  refine ⟨h.bel, fun i d hd => ?_, fun i d hd k hk => ?_, fun i j d e hd he hne k hk => ?_⟩
  · rcases get_snoc hd with hd | ⟨_, rfl⟩
    · exact h.rep i d hd
    · exact hr
  · rcases get_snoc hd with hd | ⟨_, rfl⟩
    · exact h.up i d hd k hk
    · exact hu k hk
  · rcases get_snoc hd with hd | ⟨e1, rfl⟩
    · rcases get_snoc he with he | ⟨e2, rfl⟩
      · exact h.sep i j d e hd he hne k hk
      · exact hx d (List.mem_of_getElem? hd) k hk
    · rcases get_snoc he with he | ⟨e2, rfl⟩
      · by_cases e0 : e.1 k = 0
        · exact e0
        · exact absurd (hx e (List.mem_of_getElem? he) k e0) hk
      · omega

theorem Herd.pickf {W w : World} {xs ys : List ((Nat → Nat) × Thing)} (h : Herd W w xs) (f : Nat → Nat) (hf : ∀ (i : Nat) (d : (Nat → Nat) × Thing), ys[i]? = some d → xs[f i]? = some d) (hi : ∀ i j, i ≠ j → f i ≠ f j) : Herd W w ys :=
  ⟨h.bel, fun i d hd => h.rep _ d (hf i d hd), fun i d hd => h.up _ d (hf i d hd), fun i j d e hd he hij => h.sep _ _ d e (hf i d hd) (hf j e he) (hi i j hij)⟩

def skip (n i : Nat) : Nat := if i < n then i else i + 1
theorem skip_ne (n i j : Nat) (h : i ≠ j) : skip n i ≠ skip n j := by unfold skip; split <;> split <;> omega
theorem skip_no (n i : Nat) : skip n i ≠ n := by unfold skip; split <;> omega
theorem skip_get {α : Type} {xs zs : List α} {z d : α} {i : Nat} (h : (xs ++ zs)[i]? = some d) : (xs ++ z :: zs)[skip xs.length i]? = some d := by
  unfold skip
  by_cases hi : i < xs.length
  · rw [if_pos hi, List.getElem?_append_left hi]
    rw [List.getElem?_append_left hi] at h
    exact h
  · rw [if_neg hi, List.getElem?_append_right (by omega)]
    rw [List.getElem?_append_right (by omega)] at h
    rw [show i + 1 - xs.length = (i - xs.length) + 1 by omega, List.getElem?_cons_succ]
    exact h

structure Mvb (S : Nat → Prop) (w w' : World) : Prop where
  os : w'.os = w.os
  tape : w'.tape = w.tape
  output : w'.output = w.output
  size : w.heap.size ≤ w'.heap.size
  blk : ∀ b, b < w.heap.size → ¬ S b → w'.heap[b]? = w.heap[b]?

def grb (S : Nat → Prop) (w w' : World) (b : Nat) : Prop := S b ∨ (w.heap.size ≤ b ∧ b < w'.heap.size)

abbrev txL (Kt Kr Ko : Nat → Nat) (g r : Nat) (row : List Int) (p L : Nat) (out : List Int) (dn : Bool) (a : Option Addr) (c : Nat) (fl fd : Option Addr) (ys : List ((Nat → Nat) × Thing)) : List ((Nat → Nat) × Thing) :=
  (Kt, tb g (txO r a out.length c L dn fl fd)) :: (Kr, tr r row p) :: (Ko, tl (.slice a out.length c) out) :: ys

def Ist (S : Nat → Prop) (B : Nat) (w : World) (g r : Nat) (row : List Int) (p L : Nat) (out : List Int) (dn : Bool) : Prop :=
  ∃ W Kt Kr Ko a c fl fd ys, W.heap.size = B ∧ Herd W w (txL Kt Kr Ko g r row p L out dn a c fl fd ys) ∧ Fx ys fl fd ∧ (out.length ≤ L ∧ L ≤ 16777216) ∧ ∀ d, d ∈ txL Kt Kr Ko g r row p L out dn a c fl fd ys → ∀ k, d.1 k ≠ 0 → S k

theorem Ist.size {S : Nat → Prop} {B : Nat} {w : World} {g r : Nat} {row : List Int} {p L : Nat} {out : List Int} {dn : Bool} (h : Ist S B w g r row p L out dn) : B ≤ w.heap.size := by
  obtain ⟨W, Kt, Kr, Ko, a, c, fl, fd, ys, hW, HH, -⟩ := h
  have := HH.bel.size; omega

theorem Ist.move {S S' : Nat → Prop} {B : Nat} {w w' : World} {g r : Nat} {row : List Int} {p L : Nat} {out : List Int} {dn : Bool} (h : Ist S B w g r row p L out dn) (hs : w.heap.size ≤ w'.heap.size) (hk : ∀ b, S b → w'.heap[b]? = w.heap[b]?) (hS : ∀ b, S b → S' b) : Ist S' B w' g r row p L out dn := by
  have hB := h.size
  obtain ⟨W, Kt, Kr, Ko, a, c, fl, fd, ys, hW, HH, hf, hL, hSS⟩ := h
  have hz : (wtake w' B).heap.size = B := wtake_size (by omega)
  refine ⟨wtake w' B, Kt, Kr, Ko, a, c, fl, fd, ys, hz, ⟨by rw [hz]; exact wtake_below (by omega), fun i d hd => ?_, fun i d hd k q => ?_, HH.sep⟩, hf, hL, fun d hd k q => hS k (hSS d hd k q)⟩
  · exact d.2.far (HH.rep i d hd) hs fun k q => hk k (hSS d (List.mem_of_getElem? hd) k q)
  · rw [hz, ← hW]; exact HH.up i d hd k q

theorem Ist.fact {S : Nat → Prop} {B : Nat} {w : World} {g r : Nat} {row : List Int} {p L : Nat} {out : List Int} {dn : Bool} (h : Ist S B w g r row p L out dn) : Bit row ∧ p ≤ row.length ∧ row.length ≤ 268435456 ∧ row.length % 8 = 0 ∧ out.length ≤ L ∧ L ≤ 16777216 ∧ S g ∧ B ≤ g ∧
    ∃ a c fl fd, w.heap[g]? = some (txO r a out.length c L dn fl fd) ∧ OB w 0 (.slice a out.length c) out ∧ w.cell? ⟨r, 1, none⟩ = some (.int .i64 p) := by
  obtain ⟨W, Kt, Kr, Ko, a, c, fl, fd, ys, hW, HH, hf, hL, hSS⟩ := h
  have hT : TX W w g r row p L out dn ys := ⟨Kt, Kr, Ko, a, c, fl, fd, HH, hf, hL⟩
  obtain ⟨h1, h2, h3, h4⟩ := hT.rd
  have ht : (tb g (txO r a out.length c L dn fl fd)).P w Kt := HH.rep 0 _ rfl
  exact ⟨h1, h2, h3, h4, hL.1, hL.2, hSS _ (List.mem_cons_self ..) g ht.2.1, by rw [← hW]; exact HH.up 0 _ rfl g ht.2.1, a, c, fl, fd, ht.1, (HH.rep 2 _ rfl).1, hT.at⟩

theorem Fx.drop {ys zs : List ((Nat → Nat) × Thing)} {K : Nat → Nat} {w0 : World} {fl fd : Option Addr} (h : Fx (ys ++ (K, tkp w0) :: zs) fl fd) : Fx (ys ++ zs) fl fd := by
  rcases h with h | ⟨gl, gd, i, j, Kl, Kd, h1, h2, h3, h4⟩
  · exact .inl h
  · have key : ∀ {i : Nat} {Kx : Nat → Nat} {gx : Nat} {l : List Int}, (ys ++ (K, tkp w0) :: zs)[i]? = some (Kx, td gx l) → ∃ i' : Nat, (ys ++ zs)[i']? = some (Kx, td gx l) := by
      intro i Kx gx l hi
      have hm := List.mem_of_getElem? hi
      rcases List.mem_append.1 hm with hm | hm
      · exact List.getElem?_of_mem (List.mem_append.2 (.inl hm))
      · rcases List.mem_cons.1 hm with hm | hm
        · injection hm with _ hm
          exact absurd hm.symm (tkp_td w0 gx l)
        · exact List.getElem?_of_mem (List.mem_append.2 (.inr hm))
    obtain ⟨i', hi'⟩ := key h3
    obtain ⟨j', hj'⟩ := key h4
    exact .inr ⟨gl, gd, i', j', Kl, Kd, h1, h2, hi', hj'⟩

theorem hblockS {S : Nat → Prop} {B : Nat} {V : World} {g r : Nat} {row : List Int} {p L : Nat} {out : List Int} {dn : Bool} (h : Ist S B V g r row p L out dn) (T : Tab (wtake V B)) (O : Odr (wtake V B)) :
    Calls Tryd.prog 17 #[.pointer (some ⟨g, 0, none⟩)] V fun e w' => Mvb S V w' ∧ ∃ E f k q o, Blk row L p out E f k q o ∧ ((E = 0 ∧ e = .returned (.agg #[.int .i64 k, .bool f, .int .i64 p, .int .i64 q, .int .i64 out.length, .int .i64 o.length]) ∧ Ist (grb S V w') B w' g r row q L o f) ∨ (E ≠ 0 ∧ e = flt E)) := by
  have hB := h.size
  obtain ⟨Kk, hKk⟩ : ∃ Kk : Nat → Nat, ∀ k, Kk k ≠ 0 ↔ (B ≤ k ∧ k < V.heap.size ∧ ¬ S k) := by
    classical
    exact ⟨fun k => if B ≤ k ∧ k < V.heap.size ∧ ¬ S k then 1 else 0, fun k => by by_cases q : B ≤ k ∧ k < V.heap.size ∧ ¬ S k <;> simp [q]⟩
  have h0 := h.move (S' := S) (Nat.le_refl _) (fun _ _ => rfl) (fun _ q => q)
  obtain ⟨W, Kt, Kr, Ko, a, c, fl, fd, ys, hW, HH, hf, hL, hSS⟩ := h
  have hz : (wtake V B).heap.size = B := wtake_size hB
  have H1 : Herd (wtake V B) V (txL Kt Kr Ko g r row p L out dn a c fl fd ys) := ⟨by rw [hz]; exact wtake_below hB, HH.rep, fun i d hd k q => by rw [hz, ← hW]; exact HH.up i d hd k q, HH.sep⟩
  have H2 := H1.guest (K := Kk) (x := tkp V) ⟨Nat.le_refl _, fun _ _ => rfl, fun k q => ((hKk k).1 q).2.1⟩ (fun k q => by rw [hz]; exact ((hKk k).1 q).1) (fun d hd k q => by
    by_cases e0 : Kk k = 0
    · exact e0
    · exact absurd (hSS d hd k q) ((hKk k).1 e0).2.2)
  have HT : TX (wtake V B) V g r row p L out dn (ys ++ [(Kk, tkp V)]) := ⟨Kt, Kr, Ko, a, c, fl, fd, H2, hf.app, hL⟩
  have keep : ∀ w', (tkp V).P w' Kk → Below (wtake V B).heap.size (wtake V B) w' → Mvb S V w' := fun w' hk hb => by
    rw [hz] at hb
    refine ⟨hb.os, hb.tape, hb.output, hk.1, fun b h1 h2 => ?_⟩
    by_cases h3 : b < B
    · exact (hb.block b h3).trans (wtake_at h3)
    · exact hk.2.1 b ((hKk b).2 ⟨by omega, h1, h2⟩)
  refine (hblockG HT T O).mono ?_
  rintro e w' ⟨E, f, k, q, o, hblk, ⟨rfl, rfl, zs, Kt', Kr', Ko', a', c', fl', fd', H3, hf3, hL3⟩ | ⟨he, rfl, hb⟩⟩
  · have e1 : txL Kt' Kr' Ko' g r row q L o f a' c' fl' fd' (ys ++ [(Kk, tkp V)] ++ zs) = txL Kt' Kr' Ko' g r row q L o f a' c' fl' fd' ys ++ (Kk, tkp V) :: zs := by simp [txL]
    have H4 : Herd (wtake V B) w' (txL Kt' Kr' Ko' g r row q L o f a' c' fl' fd' ys ++ (Kk, tkp V) :: zs) := by rw [← e1]; exact H3
    have hn : (txL Kt' Kr' Ko' g r row q L o f a' c' fl' fd' ys ++ (Kk, tkp V) :: zs)[(txL Kt' Kr' Ko' g r row q L o f a' c' fl' fd' ys).length]? = some (Kk, tkp V) := by simp
    have hkp : (tkp V).P w' Kk := H4.rep _ _ hn
    have H5 : Herd (wtake V B) w' (txL Kt' Kr' Ko' g r row q L o f a' c' fl' fd' ys ++ zs) := H4.pickf (skip _) (fun i d hd => skip_get hd) (skip_ne _)
    refine ⟨keep w' hkp H4.bel, 0, f, k, q, o, hblk, .inl ⟨rfl, rfl, wtake V B, Kt', Kr', Ko', a', c', fl', fd', ys ++ zs, hz, H5, ?_, hL3, fun d hd m hm => ?_⟩⟩
    · refine Fx.drop (K := Kk) (w0 := V) ?_
      have e2 : ys ++ [(Kk, tkp V)] ++ zs = ys ++ (Kk, tkp V) :: zs := by simp
      rw [← e2]; exact hf3
    · obtain ⟨i, hi⟩ := List.getElem?_of_mem (show d ∈ txL Kt' Kr' Ko' g r row q L o f a' c' fl' fd' ys ++ zs from hd)
      have hs := skip_get (z := (Kk, tkp V)) hi
      have h7 := H4.sep _ _ _ _ hs hn (skip_no _ _) m hm
      have h8 := H4.up _ _ hs m hm
      have h9 := d.2.sup (H4.rep _ _ hs) m hm
      rw [hz] at h8
      by_cases hv : m < V.heap.size
      · left
        by_cases hS : S m
        · exact hS
        · exact absurd h7 ((hKk m).2 ⟨h8, hv, hS⟩)
      · exact .inr ⟨by omega, h9⟩
  · exact ⟨keep w' (hb.2 (Kk, tkp V) (by simp)) hb.1, E, f, k, q, o, hblk, .inr ⟨he, rfl⟩⟩
end Go.Proofs.YtippppcdongahaaDoor

