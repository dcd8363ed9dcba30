import Derived.Test.YtgengoffkoonfabStw
import Derived.Test.YtgengoffkoonfabQRng
namespace Go.Proofs.Ytgengoffkoonfab
open Go.RowKit Go.Maps
set_option maxRecDepth 20000
set_option linter.unusedVariables false

theorem isNaN_any (w : World) (x : Int) : Calls Try.prog 64 #[.int .i64 x] w fun e w' => e = .returned (.bool false) ∧ w' = w := by
  have h : (x != x) = false := by simp
  go_enter Try.func64, Try.ntmps64
  go_wp2
  go_ret
  exact ⟨by simp, rfl⟩

theorem cmpI_any (w : World) (x y : Int) : Calls Try.prog 44 #[.int .i64 x, .int .i64 y] w fun e w' => e = .returned (.int .i64 (cmpv x y)) ∧ w' = w := by
  by_cases h1 : x < y
  · have HE : Hid (cmpv x y = -1) := if_pos h1
    rw [HE.out]
    go_enter Try.func44, Try.ntmps44
    go_wp2_with fail
    refine (isNaN_any _ x).mono ?_
    rintro e w1 ⟨rfl, rfl⟩
    go_wp2_with fail
    refine (isNaN_any _ y).mono ?_
    rintro e w2 ⟨rfl, rfl⟩
    go_wp2
    go_ret
    exact ⟨rfl, rfl⟩
  · by_cases h2 : y < x
    · have HE : Hid (cmpv x y = 1) := by show cmpv x y = 1; unfold cmpv; rw [if_neg h1, if_pos h2]
      rw [HE.out]
      go_enter Try.func44, Try.ntmps44
      go_wp2_with fail
      refine (isNaN_any _ x).mono ?_
      rintro e w1 ⟨rfl, rfl⟩
      go_wp2_with fail
      refine (isNaN_any _ y).mono ?_
      rintro e w2 ⟨rfl, rfl⟩
      go_wp2
      go_ret
      exact ⟨rfl, rfl⟩
    · have HE : Hid (cmpv x y = 0) := by show cmpv x y = 0; unfold cmpv; rw [if_neg h1, if_neg h2]
      rw [HE.out]
      go_enter Try.func44, Try.ntmps44
      go_wp2_with fail
      refine (isNaN_any _ x).mono ?_
      rintro e w1 ⟨rfl, rfl⟩
      go_wp2_with fail
      refine (isNaN_any _ y).mono ?_
      rintro e w2 ⟨rfl, rfl⟩
      go_wp2
      go_ret
      exact ⟨rfl, rfl⟩

/-- The closure that compares two symbols by their frequencies. -/
theorem less_any (W : World) (Bs : Nat) (af : Option Addr) (cf : Nat) (l : List Int) (hb : W.cell? ⟨Bs, 0, none⟩ = some (.slice af l.length cf)) (hs : SI W (.slice af l.length cf) l) (x y : Int) (hx : 0 ≤ x ∧ x < l.length) (hy : 0 ≤ y ∧ y < l.length) :
    Calls Try.prog 43 #[.int .i64 x, .int .i64 y, .pointer (some ⟨Bs, 0, none⟩)] W fun e W' => e = .returned (.int .i64 (cmpv (l.getD x.toNat 0) (l.getD y.toNat 0))) ∧ ∃ q, W' = W.drewN q := by
  obtain ⟨i, rfl⟩ : ∃ i : Nat, x = i := ⟨x.toNat, by omega⟩
  obtain ⟨j, rfl⟩ : ∃ j : Nat, y = j := ⟨y.toNat, by omega⟩
  obtain ⟨b1, o1, rfl, c1⟩ := hs.get (Below.refl _ _) (k := i) (by omega)
  obtain ⟨b2, o2, he, c2⟩ := hs.get (Below.refl _ _) (k := j) (by omega)
  simp only [Option.some.injEq, Addr.mk.injEq, and_true] at he
  obtain ⟨rfl, rfl⟩ := he
  have HSI := hide hs
  obtain ⟨u, HU⟩ : ∃ u, Hid (u = l.getD i 0) := ⟨_, rfl⟩
  obtain ⟨v, HV⟩ : ∃ u, Hid (u = l.getD j 0) := ⟨_, rfl⟩
  have e1 : (i : Int).toNat = i := by omega
  have e2 : (j : Int).toNat = j := by omega
  rw [e1, e2, ← HU.out, ← HV.out]
  rw [← HU.out] at c1
  rw [← HV.out] at c2
  have HC : Hid (∀ n, Calls Try.prog 44 #[.int .i64 u, .int .i64 v] (W.drewN n) fun e W' => e = .returned (.int .i64 (cmpv u v)) ∧ ∃ k, W' = W.drewN k) := fun n => (cmpI_any (W.drewN n) u v).mono fun e W' ⟨he, hw⟩ => ⟨he, n, hw⟩
  obtain ⟨cv, HCV⟩ : ∃ cv, Hid (cv = cmpv u v) := ⟨_, rfl⟩
  rw [← HCV.out] at HC ⊢
  have hi : (i : Int) < (l.length : Int) := hx.2
  have hj : (j : Int) < (l.length : Int) := hy.2
  clear hs hx hy e1 e2
  go_enter Try.func43, Try.ntmps43
  go_wp2
  go_quiet (first | (go_at_call 44; exact HC.out _))
  go_wp2
  go_ret
  exact ⟨rfl, _, rfl⟩

def fo (l : List Int) (x : Int) : Int := l.getD x.toNat 0

theorem less_cmp {w : World} {B Bs : Nat} {af : Option Addr} {cf : Nat} {l : List Int} (hb : w.cell? ⟨Bs, 0, none⟩ = some (.slice af l.length cf)) (hs : SI w (.slice af l.length cf) l) (h1 : Bs ≠ B) (h2 : ∀ k, (Value.slice af l.length cf).ownBlock = some k → k ≠ B) :
    Cmp w B (.pointer (some ⟨Bs, 0, none⟩)) (fo l) (fun x => 0 ≤ x ∧ x < l.length) := fun W hW x y hx hy => by
  have hbl : ∀ k, k ≠ B → W.heap[k]? = w.heap[k]? := hW.block
  have hcell : ∀ a : Addr, a.block ≠ B → W.cell? a = w.cell? a := fun a ha => by unfold World.cell?; rw [hbl _ ha]
  refine less_any W Bs af cf l ?_ ?_ x y hx hy
  · rw [hcell _ h1]; exact hb
  · exact hs.move fun a u ha hk => by rw [hcell _ (h2 _ hk)]; exact ha

set_option maxHeartbeats 1000000 in
theorem sort_any {w0 w : World} {B c : Nat} {p : Value} {f : Int → Int} {D : Int → Prop} (S : List Int) (hS : S.Pairwise (· < ·)) (h : Srow w0 w B c S) (hc : Cmp w0 B p f D) (hD : ∀ y ∈ S, D y) (hL : S.length ≤ 288) :
    Calls Try.prog 42 #[.slice (some ⟨B, 0, none⟩) S.length c, .func (.func 43) #[] #[p]] w fun e w' => e = .returned (.tuple #[]) ∧ Std w0 w' B c S f := by
  have HC := hide (stab_any S hS h hc hD hL)
  clear h hc hD hS
  obtain ⟨L, HLL⟩ : ∃ L, Hid (L = S.length) := ⟨_, rfl⟩
  rw [← HLL.out] at HC ⊢
  go_enter Try.func42, Try.ntmps42
  go_wp2_with fail
  refine HC.out.mono ?_
  rintro e w1 ⟨rfl, hs⟩
  have HS := hide hs
  clear hs
  go_wp2
  (try simp only [Exit.inBlock, Exit.then])
  refine bodyPost_end (results_none rfl _ _ _) rfl ?_
  exact ⟨rfl, HS.out⟩

/-- The order by frequency, then by symbol. -/
def Lf (l : List Int) (s t : Nat) : Prop := l.getD s 0 < l.getD t 0 ∨ l.getD s 0 = l.getD t 0 ∧ s < t

/-- Sorted symbols. -/
structure Srt (l : List Int) (S T : List Nat) : Prop where
  perm : T.Perm S
  rise : T.Pairwise (Lf l)

theorem srt_of {l : List Int} {S : List Nat} {X : List Int} (hp : X.Perm (ci S)) (hs : X.Pairwise (Lx (fo l))) : ∃ T, X = ci T ∧ Srt l S T := by
  refine ⟨X.map Int.toNat, ?_, ?_, ?_⟩
  · unfold ci
    rw [List.map_map]
    have : ∀ x ∈ X, ((fun s : Nat => (s : Int)) ∘ Int.toNat) x = x := fun x hx => by
      have := hp.subset hx
      simp only [ci, List.mem_map] at this
      obtain ⟨s, _, rfl⟩ := this
      simp
    rw [List.map_congr_left this]
    simp
  · have := hp.map Int.toNat
    unfold ci at this
    rw [List.map_map] at this
    have e : (Int.toNat ∘ fun s : Nat => (s : Int)) = id := by funext s; simp
    rwa [e, List.map_id] at this
  · rw [List.pairwise_map]
    refine hs.imp_of_mem fun {x y} hx hy h => ?_
    have hx' := hp.subset hx
    have hy' := hp.subset hy
    simp only [ci, List.mem_map] at hx' hy'
    obtain ⟨s, _, rfl⟩ := hx'
    obtain ⟨t, _, rfl⟩ := hy'
    unfold Lx fo at h
    unfold Lf
    simp only [Int.toNat_natCast] at h ⊢
    omega

set_option maxHeartbeats 1000000 in
theorem first_any (v : Value) (l : List Int) (S : List Nat) (w : World) (B c base : Nat) (hl : SI w v l) (ho : OI w base (.slice (some ⟨B, 0, none⟩) S.length c) (ci S)) (hne : ∀ k, v.ownBlock = some k → k < base) (hS : S.Pairwise (· < ·)) (hD : ∀ s ∈ S, s < l.length) (hL : S.length ≤ 288) :
    Calls Try.prog 29 #[v, .slice (some ⟨B, 0, none⟩) S.length c] w fun e w' => e = .returned (.tuple #[]) ∧ ∃ T, Srt l S T ∧ OI w' base (.slice (some ⟨B, 0, none⟩) S.length c) (ci T) ∧ Below base w w' := by
  have HL := hide hl
  obtain ⟨af, cf, rfl, hlc, hcm⟩ := hl.open
  obtain ⟨hb1, hb2⟩ := ho.lt B rfl
  obtain ⟨w1, hw1⟩ : ∃ w1, w1 = w.alloc (.cells #[.slice af l.length cf] 22) := ⟨_, rfl⟩
  have hbel : Below w.heap.size w w1 := by rw [hw1]; exact (Below.refl _ _).alloc (Nat.le_refl _) _
  have hbox : w1.cell? ⟨w.heap.size, 0, none⟩ = some (.slice af l.length cf) := by rw [hw1]; exact (H4.cellNew w _ _).1
  have hrow : Srow w1 w1 B c (ci S) := Srow.refl (by
    rw [ci_len, hw1]
    exact (ho.base (Nat.zero_le _)).alloc _)
  have hcmp := less_cmp (B := B) hbox (hl.below hbel) (by omega) (fun k hk => by have := hne k hk; omega)
  have hSi : (ci S).Pairwise (· < ·) := by
    unfold ci
    rw [List.pairwise_map]
    exact hS.imp fun h => by omega
  have HC := hide (sort_any (ci S) hSi hrow hcmp (fun y hy => by
    simp only [ci, List.mem_map] at hy
    obtain ⟨s, hs, rfl⟩ := hy
    have := hD s hs
    omega) (by rw [ci_len]; exact hL))
  have HB := hide hb1
  have hsz : w1.heap.size = w.heap.size + 1 := by rw [hw1]; simp
  rw [ci_len] at HC
  have HW := hide hw1
  have HO := hide ho
  have HBE := hide hbel
  rw [HW.out] at HC
  clear hl ho hne hS hD hrow hcmp hSi hbox hbel hw1 hb1 hsz
  go_enter Try.func29, Try.ntmps29
  go_wp2_with fail
  refine HC.out.mono ?_
  rintro e w2 ⟨rfl, hs⟩
  have HF : Hid (∃ T, Srt l S T ∧ OI w2 base (.slice (some ⟨B, 0, none⟩) S.length c) (ci T) ∧ Below base w w2) := by
    obtain ⟨X, hp, hr, hrow⟩ := hs
    obtain ⟨T, rfl, hT⟩ := srt_of hp hr
    refine ⟨T, hT, ?_, ?_⟩
    · have h1 := hrow.own
      rw [ci_len, hT.perm.length_eq] at h1
      refine ⟨h1.1, ?_⟩
      rcases h1.2 with q | ⟨g, cap, cur, he, _, r⟩
      · simp at q
      · simp only [Value.slice.injEq, Option.some.injEq, Addr.mk.injEq, and_true] at he
        exact .inr ⟨g, cap, cur, by simp only [Value.slice.injEq, Option.some.injEq, Addr.mk.injEq, and_true]; exact he, by rw [← he.1]; exact HB.out, r⟩
    · have ho := hrow.only
      have hle : base ≤ w.heap.size := by have := HB.out; omega
      refine ⟨ho.os, ho.tape, ho.output, ?_, fun k hk => ?_⟩
      · rw [ho.size]; simp
      · rw [ho.block k (by have := HB.out; omega)]
        exact Below.heap_alloc w _ k (by omega)
  clear hs
  go_wp2
  (try simp only [Exit.inBlock, Exit.then])
  refine bodyPost_end (results_none rfl _ _ _) rfl ?_
  exact ⟨rfl, HF.out⟩
end Go.Proofs.Ytgengoffkoonfab
