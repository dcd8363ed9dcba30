import Derived.Test.YteiajeeincapoacRCrash
import Derived.Test.YteiajeeincapoacBulk
namespace Go.Proofs.Yteiajeeincapoac
open Go.RowKit Go.Maps

/-- One of the herd is changed and a new one comes. -/
theorem Herd.born {W w w' : World} {xs : List ((Nat → Nat) × Nat × Thing)} (h : Herd W w xs) (n : Nat) {K K2 : Nat → Nat} {g g2 : Nat} {x x' y : Thing} (hn : xs[n]? = some (K, g, x)) (hr : RepX w' K g x') (hy : RepX w' K2 g2 y) (hu : ∀ k, K2 k ≠ 0 → w.heap.size ≤ k) (hF : Fr K K w w') :
    Herd W w' (xs.set n (K, g, x') ++ [(K2, g2, y)]) := by
  have h1 := h.op n hn hr hF
  have hs := h.bel.size
  have hlt : ∀ (i : Nat) (d : (Nat → Nat) × Nat × Thing), (xs.set n (K, g, x'))[i]? = some d → ∀ k, d.1 k ≠ 0 → k < w.heap.size := by
    intro i d hd k hk
    rcases get_set hd with ⟨hne, hd⟩ | ⟨_, rfl⟩
    · exact (h.rep i d hd).sup k hk
    · exact (h.rep n _ hn).sup k hk
  refine ⟨h1.bel, fun i d hd => ?_, fun i d hd k hk => ?_, fun i j d e hd he hne k hk => ?_⟩
  · rcases get_snoc hd with hd | ⟨_, rfl⟩
    · exact h1.rep i d hd
    · exact hy
  · rcases get_snoc hd with hd | ⟨_, rfl⟩
    · exact h1.up i d hd k hk
    · have := hu k hk; omega
  · rcases get_snoc hd with hd | ⟨e1, rfl⟩
    · rcases get_snoc he with he | ⟨e2, rfl⟩
      · exact h1.sep i j d e hd he hne k hk
      · by_cases e0 : K2 k = 0
        · exact e0
        · have := hu k e0; have := hlt i d hd k hk; omega
    · rcases get_snoc he with he | ⟨e2, rfl⟩
      · by_cases e0 : e.1 k = 0
        · exact e0
        · have := hu k hk; have := hlt j e he k e0; omega
      · omega

theorem Herd.drop {W w : World} {xs : List ((Nat → Nat) × Nat × Thing)} (h : Herd W w xs) (m : Nat) : Herd W w (xs.drop m) :=
  ⟨h.bel, fun i d hd => h.rep (m + i) d (by rwa [List.getElem?_drop] at hd), fun i d hd => h.up (m + i) d (by rwa [List.getElem?_drop] at hd),
    fun i j d e hd he hne => h.sep (m + i) (m + j) d e (by rwa [List.getElem?_drop] at hd) (by rwa [List.getElem?_drop] at he) (by omega)⟩

theorem dcrash_herd {W w : World} {xs : List ((Nat → Nat) × Nat × Thing)} (i : Nat) {K : Nat → Nat} {g : Nat} {st : St} {vsec : Value} {sec : List Int} (size rest : Int) (h : Herd W w xs) (hi : xs[i]? = some (K, g, .inl st)) (hI : Inv st) (hsec : SI w vsec sec) (hK0 : Role K vsec 0) :
    Calls Try.prog 8 #[.pointer (some ⟨g, 0, none⟩), .agg #[.int .i64 size, vsec, .int .i64 rest]] w fun e w' => ∃ g2 K2, e = .returned (.tuple #[.pointer (some ⟨g2, 0, none⟩), .int .i64 0]) ∧
      Herd W w' (xs.set i (K, g, .inl { st with dead := true }) ++ [(K2, g2, .inl (stNew (outcomeL st (size, sec, rest)) st.cap))]) ∧ Fr K K w w' := by
  refine (crash_any size rest (h.rep i _ hi) hI.p (by have := hI.s.sizes; have := hI.s.calls; omega) hsec hK0).mono ?_
  rintro e w' ⟨g2, K2, rfl, hR, hR2, hu, hF⟩
  exact ⟨g2, K2, rfl, h.born i hi hR hR2 hu hF, hF⟩

theorem Sim.behind {st : St} {rs : RSt} (h : Sim st rs) (k : Int) : rbehind rs k = behind st k := by
  unfold rbehind Go.Proofs.Yteiajeeincapoac.behind
  rw [h.sizes, h.dur]

theorem Sim.places {st : St} {rs : RSt} (h : Sim st rs) (hb : PBd st) : ∀ p ∈ rs.rps, p.2.1 + p.2.2.length ≤ 16777216 := by
  intro p hp
  have hm : p.2 ∈ (rs.rps.filter (fun q => q.1 == p.1)).map (fun q => q.2) := List.mem_map.2 ⟨p, List.mem_filter.2 ⟨hp, by simp⟩, rfl⟩
  rw [h.pcs p.1] at hm
  obtain ⟨q, hq, he⟩ := List.mem_map.1 hm
  have := hb p.1 q hq
  unfold flat at he
  rw [← he]
  simp
  omega

theorem rcrash_herd {W w : World} {xs : List ((Nat → Nat) × Nat × Thing)} (j : Nat) {KR : Nat → Nat} {gr n : Nat} {st : St} {rs : RSt} {vsec : Value} {sec : List Int} (size rest : Int) (h : Herd W w xs) (hj : xs[j]? = some (KR, gr, .inr rs)) (hP : Pair st rs n) (hn : n ≤ 2000000) (hsec : SI w vsec sec) :
    Calls Try.prog 10 #[.pointer (some ⟨gr, 0, none⟩), .agg #[.int .i64 size, vsec, .int .i64 rest]] w fun e w' => ∃ g2 K2, e = .returned (.tuple #[.pointer (some ⟨g2, 0, none⟩), .int .i64 0]) ∧
      Herd W w' (xs.set j (KR, gr, .inr { rs with live := false }) ++ [(K2, g2, .inr (rsNew (outcomeL st (size, sec, rest)) st.cap))]) ∧ Fr KR KR w w' := by
  have hri := hP.rinv hn
  have hs := hP.sim
  have hI := hP.inv
  have hcp := hI.p.cap
  have e1 : rOut (resz rs.dur (rbehind rs size)) sec rest rs.rps = outcomeL st (size, sec, rest) := by rw [hs.behind]; exact hs.out hI.k.bd (size, sec, rest)
  have h1 : rs.sizes.length ≤ 2000000 := Nat.le_trans hri.sizes hri.calls
  have h2 : rbehind rs size ≤ 16777216 := by rw [hs.behind]; exact Nat.le_trans (hI.p.behind size) hcp
  have h3 : rs.dur.length ≤ 16777216 := Nat.le_trans hri.dur hri.room
  have h4 : rs.rps.length ≤ 100000000000 := by have := hri.rps; have := hri.calls; omega
  have hc := rcrash_any (vsec := vsec) (sec := sec) size rest (h.rep j _ hj) h1 hsec h2 h3 (hs.rbd hI.k.bd) h4 (hs.places hI.p.bd)
  rw [e1] at hc
  refine hc.mono ?_
  rintro e w' ⟨g2, K2, rfl, hR, hR2, hu, hF⟩
  rw [hs.room] at hR2
  exact ⟨g2, K2, rfl, h.born j hj hR hR2 hu hF, hF⟩

theorem Pair.upTo {st : St} {rs : RSt} {n m : Nat} (h : Pair st rs n) (hm : n ≤ m) : Pair st rs m := ⟨h.sim, h.inv, Nat.le_trans h.calls hm, h.rpl⟩

set_option maxRecDepth 20000 in
theorem equal_any (v1 v2 : Value) (l : List Int) (w : World) (h1 : SI w v1 l) (h2 : SI w v2 l) :
    Calls Try.prog 20 #[v1, v2] w fun e w' => e = .returned (.bool true) ∧ ∃ n, w' = w.drewN n := by
  obtain ⟨ao1, cap1, rfl, hlc1, hcm1, hnil1, hcell1⟩ := h1
  obtain ⟨ao2, cap2, rfl, hlc2, hcm2, hnil2, hcell2⟩ := h2
  unfold maxLen at hcm1 hcm2
  by_cases h0 : l.length = 0
  · obtain rfl : l = [] := List.eq_nil_of_length_eq_zero h0
    clear hcell1 hcell2 hnil1 hnil2
    go_enter Try.func20, Try.ntmps20
    go_wp2
    refine wp_loop_rounds 1 ?_
    rw [rounds_succ]
    go_wp2
    go_ret
    exact ⟨rfl, 0, rfl⟩
  · cases ao1 with
    | none => have := hnil1 rfl; omega
    | some x1 =>
    cases ao2 with
    | none => have := hnil2 rfl; omega
    | some x2 =>
    obtain ⟨b1, o1, rfl⟩ := addr_lit (hcell1 x1 rfl 0 (by omega))
    obtain ⟨b2, o2, rfl⟩ := addr_lit (hcell2 x2 rfl 0 (by omega))
    have G1 : Hid (∀ k, k < l.length → w.cell? ⟨b1, o1 + k, none⟩ = some (.int .i64 (l.getD k 0))) := fun k hk => by have := hcell1 _ rfl k hk; rwa [Addr.add_lit] at this
    have G2 : Hid (∀ k, k < l.length → w.cell? ⟨b2, o2 + k, none⟩ = some (.int .i64 (l.getD k 0))) := fun k hk => by have := hcell2 _ rfl k hk; rwa [Addr.add_lit] at this
    clear hcell1 hcell2 hnil1 hnil2
    go_enter Try.func20, Try.ntmps20
    go_wp2
    go_loopw [5] (fun i wr => ∃ k n : Nat, k ≤ l.length ∧ i = .int .i64 k ∧ wr = w.drewN n) (fun i _ => l.length - (intOf i).toNat)
    case atStart => exact ⟨0, 0, Nat.zero_le _, rfl, rfl⟩
    case round =>
      obtain ⟨k, n, hk, rfl, rfl⟩ := hrel
      by_cases hlt : k < l.length
      · obtain ⟨c, hc1, hc2⟩ : ∃ c, w.cell? ⟨b1, o1 + k, none⟩ = some (.int .i64 c) ∧ w.cell? ⟨b2, o2 + k, none⟩ = some (.int .i64 c) := ⟨_, G1.out k hlt, G2.out k hlt⟩
        go_wp2
        go_quiet (fail)
        go_wp2
        go_roundw
        case rel => exact ⟨k + 1, _, by omega, by go_num, rfl⟩
        case measure => simp [intOf]; omega
      · go_wp2
        go_ret
        exact ⟨rfl, _, rfl⟩
end Go.Proofs.Yteiajeeincapoac
