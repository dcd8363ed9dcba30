import Derived.Test.YtklffkbcigehfabQr4
import Derived.Test.YtklffkbcigehfabRnd2
namespace Go.Proofs.Ytklffkbcigehfab
open Go.RowKit Go.Maps
set_option maxRecDepth 20000

/-- A reader of the document's. -/
def tq (g : Nat) (row : List Int) (p : Nat) : Thing := ⟨fun w K => Rq w K g row p, fun h a b => h.far a b, fun h => h.sup⟩

theorem hqnew {W w : World} {xs : List ((Nat → Nat) × Thing)} (H : Herd W w xs) (u : Value) (l : List Int) (h : SB w u l) (hB : Byt l) (hl : l.length ≤ 33554432) :
    Calls Try.prog 36 #[u] w fun e w' => ∃ g K, e = .returned (.pointer (some ⟨g, 0, none⟩)) ∧ Herd W w' (xs ++ [(K, tq g (unpack l) 0)]) := by
  refine (qnewReader_any u l w h hB hl).mono ?_
  rintro e w1 ⟨g, K, rfl, hR, hn, hb⟩
  exact ⟨g, K, rfl, H.push hb hR hn⟩

theorem hqtake {W w : World} {xs : List ((Nat → Nat) × Thing)} (H : Herd W w xs) (i : Nat) {K : Nat → Nat} {g : Nat} {row : List Int} {p : Nat} (hi : xs[i]? = some (K, tq g row p)) (n : Int) :
    Calls Try.prog 52 #[.pointer (some ⟨g, 0, none⟩), .int .i64 n] w fun e w' => e = .returned (.tuple #[.int .u32 (takeV row p n), .int .i64 (takeE row p n)]) ∧ Herd W w' (xs.set i (K, tq g row (takeP row p n))) := by
  have hw : Rq w K g row p := H.rep i _ hi
  refine (qtake_any hw n).mono ?_
  rintro e w1 ⟨rfl, h1, h2⟩
  exact ⟨rfl, H.op i hi (x' := tq g row (takeP row p n)) h1 h2⟩

theorem hqpeek {W w : World} {xs : List ((Nat → Nat) × Thing)} (H : Herd W w xs) (i : Nat) {K : Nat → Nat} {g : Nat} {row : List Int} {p : Nat} (hi : xs[i]? = some (K, tq g row p)) (n : Int) :
    Calls Try.prog 54 #[.pointer (some ⟨g, 0, none⟩), .int .i64 n] w fun e w' => e = .returned (.tuple #[.int .u32 (peekV row p n), .int .i64 (peekK row p n)]) ∧ Herd W w' xs := by
  have hw : Rq w K g row p := H.rep i _ hi
  refine (qpeek_any hw n).mono ?_
  rintro e w1 ⟨rfl, q, rfl⟩
  exact ⟨rfl, H.drewN q⟩

theorem hqskip {W w : World} {xs : List ((Nat → Nat) × Thing)} (H : Herd W w xs) (i : Nat) {K : Nat → Nat} {g : Nat} {row : List Int} {p : Nat} (hi : xs[i]? = some (K, tq g row p)) (n : Int) :
    Calls Try.prog 55 #[.pointer (some ⟨g, 0, none⟩), .int .i64 n] w fun e w' => e = .returned (.int .i64 (skipE row p n)) ∧ Herd W w' (xs.set i (K, tq g row (skipP row p n))) := by
  have hw : Rq w K g row p := H.rep i _ hi
  refine (qskip_any hw n).mono ?_
  rintro e w1 ⟨rfl, h1, h2⟩
  exact ⟨rfl, H.op i hi (x' := tq g row (skipP row p n)) h1 h2⟩

theorem hqalign {W w : World} {xs : List ((Nat → Nat) × Thing)} (H : Herd W w xs) (i : Nat) {K : Nat → Nat} {g : Nat} {row : List Int} {p : Nat} (hi : xs[i]? = some (K, tq g row p)) :
    Calls Try.prog 56 #[.pointer (some ⟨g, 0, none⟩)] w fun e w' => e = .returned (.tuple #[]) ∧ Herd W w' (xs.set i (K, tq g row (algn p))) := by
  have hw : Rq w K g row p := H.rep i _ hi
  refine (qalign_any hw).mono ?_
  rintro e w1 ⟨rfl, h1, h2⟩
  exact ⟨rfl, H.op i hi (x' := tq g row (algn p)) h1 h2⟩

theorem hqat {W w : World} {xs : List ((Nat → Nat) × Thing)} (H : Herd W w xs) (i : Nat) {K : Nat → Nat} {g : Nat} {row : List Int} {p : Nat} (hi : xs[i]? = some (K, tq g row p)) :
    Calls Try.prog 38 #[.pointer (some ⟨g, 0, none⟩)] w fun e w' => e = .returned (.int .i64 p) ∧ Herd W w' xs := by
  have hw : Rq w K g row p := H.rep i _ hi
  refine (qat_any hw).mono ?_
  rintro e w1 ⟨rfl, rfl⟩
  exact ⟨rfl, H⟩

theorem hqleft {W w : World} {xs : List ((Nat → Nat) × Thing)} (H : Herd W w xs) (i : Nat) {K : Nat → Nat} {g : Nat} {row : List Int} {p : Nat} (hi : xs[i]? = some (K, tq g row p)) :
    Calls Try.prog 39 #[.pointer (some ⟨g, 0, none⟩)] w fun e w' => e = .returned (.int .i64 ((row.length : Int) - p)) ∧ Herd W w' xs := by
  have hw : Rq w K g row p := H.rep i _ hi
  refine (qleft_any hw).mono ?_
  rintro e w1 ⟨rfl, q, rfl⟩
  exact ⟨rfl, H.drewN q⟩

/-- A list that a call made beside what it did to its own. -/
theorem Herd.oplist {W w w' : World} {xs : List ((Nat → Nat) × Thing)} (H : Herd W w xs) (i : Nat) {K : Nat → Nat} {x x' : Thing} (hi : xs[i]? = some (K, x)) (h1 : x'.P w' K) (h2 : Fr K K w w') {v : Value} {l : List Int} (h0 : OB w' w.heap.size v l) :
    ∃ K', Herd W w' (xs.set i (K, x') ++ [(K', tl v l)]) := by
  have hw := H.rep i _ hi
  have H1 := H.op i hi (x' := x') h1 h2
  refine ⟨fun k => if v.ownBlock = some k then 1 else 0, H1.bel, fun j d hd => ?_, fun j d hd k hk => ?_, fun j j' d e hd he hne k hk => ?_⟩
  · rcases get_snoc hd with hd | ⟨_, rfl⟩
    · exact H1.rep j d hd
    · refine ⟨h0.base (Nat.zero_le _), fun k hk => by simp [hk], fun k hk => ?_⟩
      by_cases e : v.ownBlock = some k
      · exact (h0.lt k e).2
      · simp [e] at hk
  · rcases get_snoc hd with hd | ⟨_, rfl⟩
    · exact H1.up j d hd k hk
    · by_cases e : v.ownBlock = some k
      · have := (h0.lt k e).1; have := H.bel.size; omega
      · simp [e] at hk
  · have old : ∀ j' (e' : (Nat → Nat) × Thing), (xs.set i (K, x'))[j']? = some e' → ∀ k, e'.1 k ≠ 0 → k < w.heap.size := fun j' e' he' k hk => by
      rcases get_set he' with ⟨_, he2⟩ | ⟨_, rfl⟩
      · exact e'.2.sup (H.rep j' e' he2) k hk
      · exact x.sup hw k hk
    rcases get_snoc hd with hd | ⟨e1, rfl⟩
    · rcases get_snoc he with he | ⟨e2, rfl⟩
      · exact H1.sep j j' d e hd he hne k hk
      · by_cases e0 : v.ownBlock = some k
        · have := (h0.lt k e0).1; have := old j d hd k hk; omega
        · simp [e0]
    · rcases get_snoc he with he | ⟨e2, rfl⟩
      · by_cases e0 : v.ownBlock = some k
        · by_cases ez : e.1 k = 0
          · exact ez
          · have := (h0.lt k e0).1; have := old j' e he k ez; omega
        · simp [e0] at hk
      · omega

theorem hqraw {W w : World} {xs : List ((Nat → Nat) × Thing)} (H : Herd W w xs) (i : Nat) {K : Nat → Nat} {g : Nat} {row : List Int} {p : Nat} (hi : xs[i]? = some (K, tq g row p)) (n : Int) :
    Calls Try.prog 57 #[.pointer (some ⟨g, 0, none⟩), .int .i64 n] w fun e w' => ∃ a c K', e = .returned (.tuple #[.slice a (rrawL row p n).length c, .int .i64 (rrawE row p n)]) ∧ Herd W w' (xs.set i (K, tq g row (rrawP row p n)) ++ [(K', tl (.slice a (rrawL row p n).length c) (rrawL row p n))]) := by
  have hw : Rq w K g row p := H.rep i _ hi
  refine (qraw_any hw n).mono ?_
  rintro e w1 ⟨a, c, rfl, h0, h1, h2⟩
  obtain ⟨K', h3⟩ := H.oplist i hi (x' := tq g row (rrawP row p n)) h1 h2 h0
  exact ⟨a, c, K', rfl, h3⟩

set_option maxHeartbeats 2000000 in
theorem reads_any {W w : World} {K Kq : Nat → Nat} {g r : Nat} {row : List Int} {p : Nat} {A B C D E : (Nat → Nat) × Thing} {xs : List ((Nat → Nat) × Thing)} (hxs : xs = [A, B, C, D, E, (K, tr g row p), (Kq, tq r row p)]) (H0 : Herd W w xs) (kind on n : Int) :
    Calls Try.prog 37 #[.pointer (some ⟨g, 0, none⟩), .pointer (some ⟨r, 0, none⟩), .agg #[.int .i64 kind, .int .i64 on, .int .i64 n]] w fun e w' => e = .returned (.bool true) ∧ ∃ p', Herd W w' [A, B, C, D, E, (K, tr g row p'), (Kq, tq r row p')] := by
  subst hxs
  obtain ⟨V, HV⟩ : ∃ V, Hid (V = w.alloc (.cells #[.int .i64 kind, .int .i64 on, .int .i64 n] 71)) := ⟨_, rfl⟩
  obtain ⟨KB, hH⟩ := H0.alloc (.cells #[.int .i64 kind, .int .i64 on, .int .i64 n] 71)
  rw [← HV.out] at hH
  have H1 : Hid (Herd W V [A, B, C, D, E, (K, tr g row p), (Kq, tq r row p), (KB, tb w.heap.size (.cells #[.int .i64 kind, .int .i64 on, .int .i64 n] 71 (0, 0)))]) := hH
  clear hH H0
  have x0 : V.cell? ⟨w.heap.size, 0, none⟩ = some (.int .i64 kind) := H1.out.box 7 rfl 0
  have x2 : V.cell? ⟨w.heap.size, 2, none⟩ = some (.int .i64 n) := H1.out.box 7 rfl 2
  by_cases k1 : kind = 1
  · subst k1
    go_enter Try.func37, Try.ntmps37
    go_wp2_with fail
    rw [← HV.out]
    refine (htake H1.out 5 rfl n).mono ?_
    rintro e w2 ⟨rfl, hH⟩
    have H2 := hide hH
    clear hH
    have x2 : w2.cell? ⟨w.heap.size, 2, none⟩ = some (.int .i64 n) := H2.out.box 7 rfl 2
    go_wp2_with fail
    refine (hqtake H2.out 6 rfl n).mono ?_
    rintro e w3 ⟨rfl, hH⟩
    have H3 : Hid (Herd W w3 [A, B, C, D, E, (K, tr g row (takeP row p n)), (Kq, tq r row (takeP row p n))]) := Herd.pop (xs := [A, B, C, D, E, (K, tr g row (takeP row p n)), (Kq, tq r row (takeP row p n))]) hH
    clear hH
    go_wp2_with fail
    refine (num_any _ _).mono ?_
    rintro e wx ⟨rfl, hwx⟩
    subst hwx
    go_wp2
    go_ret
    exact ⟨rfl, _, H3.out⟩
  by_cases k2 : kind = 2
  · subst k2
    go_enter Try.func37, Try.ntmps37
    go_wp2_with fail
    rw [← HV.out]
    refine (hpeek H1.out 5 rfl n).mono ?_
    rintro e w2 ⟨rfl, hH⟩
    have H2 := hide hH
    clear hH
    have x2 : w2.cell? ⟨w.heap.size, 2, none⟩ = some (.int .i64 n) := H2.out.box 7 rfl 2
    go_wp2_with fail
    refine (hqpeek H2.out 6 rfl n).mono ?_
    rintro e w3 ⟨rfl, hH⟩
    have H3 : Hid (Herd W w3 [A, B, C, D, E, (K, tr g row p), (Kq, tq r row p)]) := Herd.pop (xs := [A, B, C, D, E, (K, tr g row p), (Kq, tq r row p)]) hH
    clear hH
    go_wp2
    go_ret
    exact ⟨rfl, _, H3.out⟩
  by_cases k3 : kind = 3
  · subst k3
    go_enter Try.func37, Try.ntmps37
    go_wp2_with fail
    rw [← HV.out]
    refine (hskip H1.out 5 rfl n).mono ?_
    rintro e w2 ⟨rfl, hH⟩
    have H2 := hide hH
    clear hH
    have x2 : w2.cell? ⟨w.heap.size, 2, none⟩ = some (.int .i64 n) := H2.out.box 7 rfl 2
    go_wp2_with fail
    refine (hqskip H2.out 6 rfl n).mono ?_
    rintro e w3 ⟨rfl, hH⟩
    have H3 : Hid (Herd W w3 [A, B, C, D, E, (K, tr g row (skipP row p n)), (Kq, tq r row (skipP row p n))]) := Herd.pop (xs := [A, B, C, D, E, (K, tr g row (skipP row p n)), (Kq, tq r row (skipP row p n))]) hH
    clear hH
    go_wp2_with fail
    refine (num_any _ _).mono ?_
    rintro e wx ⟨rfl, hwx⟩
    subst hwx
    go_wp2
    go_ret
    exact ⟨rfl, _, H3.out⟩
  by_cases k4 : kind = 4
  · subst k4
    go_enter Try.func37, Try.ntmps37
    go_wp2_with fail
    rw [← HV.out]
    refine (hralign H1.out 5 rfl).mono ?_
    rintro e w2 ⟨rfl, hH⟩
    have H2 := hide hH
    clear hH
    go_wp2_with fail
    refine (hqalign H2.out 6 rfl).mono ?_
    rintro e w3 ⟨rfl, hH⟩
    have H3 : Hid (Herd W w3 [A, B, C, D, E, (K, tr g row (algn p)), (Kq, tq r row (algn p))]) := Herd.pop (xs := [A, B, C, D, E, (K, tr g row (algn p)), (Kq, tq r row (algn p))]) hH
    clear hH
    go_wp2
    go_ret
    exact ⟨rfl, _, H3.out⟩
  by_cases k5 : kind = 5
  · subst k5
    go_enter Try.func37, Try.ntmps37
    go_wp2_with fail
    rw [← HV.out]
    refine (hrraw H1.out 5 rfl n).mono ?_
    rintro e w2 ⟨a2, c2, K2, rfl, hH⟩
    obtain ⟨L, HL⟩ : ∃ L, Hid (L = rrawL row p n) := ⟨_, rfl⟩
    rw [← HL.out] at hH ⊢
    have H2 := hide hH
    clear hH
    have x2 : w2.cell? ⟨w.heap.size, 2, none⟩ = some (.int .i64 n) := H2.out.box 7 rfl 2
    go_wp2_with fail
    refine (hqraw H2.out 6 rfl n).mono ?_
    rintro e w3 ⟨a3, c3, K3, rfl, hH⟩
    rw [← HL.out] at hH ⊢
    have H3 := hide hH
    clear hH
    go_wp2_with fail
    refine (same_any _ _ L L _ (H3.out.sb 8 rfl) (H3.out.sb 9 rfl)).mono ?_
    rintro e w4 ⟨rfl, n4, rfl⟩
    rw [show eqB L L = true by simp [eqB]]
    have H4 : Hid (Herd W (w3.drewN n4) [A, B, C, D, E, (K, tr g row (rrawP row p n)), (Kq, tq r row (rrawP row p n))]) :=
      Herd.pop (xs := [A, B, C, D, E, (K, tr g row (rrawP row p n)), (Kq, tq r row (rrawP row p n))]) (Herd.pop (xs := [A, B, C, D, E, (K, tr g row (rrawP row p n)), (Kq, tq r row (rrawP row p n)), _]) (Herd.pop (xs := [A, B, C, D, E, (K, tr g row (rrawP row p n)), (Kq, tq r row (rrawP row p n)), _, _]) (H3.out.drewN n4)))
    go_wp2_with fail
    refine (num_any _ _).mono ?_
    rintro e wx ⟨rfl, hwx⟩
    subst hwx
    go_wp2
    go_ret
    exact ⟨rfl, _, H4.out⟩
  by_cases k6 : kind = 6
  · subst k6
    go_enter Try.func37, Try.ntmps37
    go_wp2_with fail
    rw [← HV.out]
    refine (hat H1.out 5 rfl).mono ?_
    rintro e w2 ⟨rfl, hH⟩
    have H2 := hide hH
    clear hH
    go_wp2_with fail
    refine (hqat H2.out 6 rfl).mono ?_
    rintro e w3 ⟨rfl, hH⟩
    have H3 : Hid (Herd W w3 [A, B, C, D, E, (K, tr g row p), (Kq, tq r row p)]) := Herd.pop (xs := [A, B, C, D, E, (K, tr g row p), (Kq, tq r row p)]) hH
    clear hH
    go_wp2
    go_ret
    exact ⟨rfl, _, H3.out⟩
  by_cases k7 : kind = 7
  · subst k7
    go_enter Try.func37, Try.ntmps37
    go_wp2_with fail
    rw [← HV.out]
    refine (hleft H1.out 5 rfl).mono ?_
    rintro e w2 ⟨rfl, hH⟩
    have H2 := hide hH
    clear hH
    go_wp2_with fail
    refine (hqleft H2.out 6 rfl).mono ?_
    rintro e w3 ⟨rfl, hH⟩
    have H3 : Hid (Herd W w3 [A, B, C, D, E, (K, tr g row p), (Kq, tq r row p)]) := Herd.pop (xs := [A, B, C, D, E, (K, tr g row p), (Kq, tq r row p)]) hH
    clear hH
    go_wp2
    go_ret
    exact ⟨rfl, _, H3.out⟩
  have HFIN : Hid (Herd W V [A, B, C, D, E, (K, tr g row p), (Kq, tq r row p)]) := Herd.pop (xs := [A, B, C, D, E, (K, tr g row p), (Kq, tq r row p)]) H1.out
  go_enter Try.func37, Try.ntmps37
  go_wp2
  go_ret
  rw [← HV.out]
  exact ⟨rfl, _, HFIN.out⟩
end Go.Proofs.Ytklffkbcigehfab
