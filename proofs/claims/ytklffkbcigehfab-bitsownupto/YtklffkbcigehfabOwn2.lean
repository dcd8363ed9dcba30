import Derived.Test.YtklffkbcigehfabOwn
namespace Go.Proofs.Ytklffkbcigehfab
open Go.RowKit Go.Maps
set_option maxRecDepth 20000

/-- The book: what each of its entries shows. -/
def Book (w : World) (v : Value) (es : List He) : Prop :=
  ∃ a cap, v = .slice a es.length cap ∧ es.length ≤ cap ∧ cap ≤ maxLen ∧ ∀ (i : Nat) (e : He), es[i]? = some e → HeP w e ∧ ∃ g, a = some ⟨g, 0, none⟩ ∧ w.cell? ⟨g, i * 3, none⟩ = some e.L ∧ w.cell? ⟨g, i * 3 + 1, none⟩ = some e.M ∧ w.cell? ⟨g, i * 3 + 2, none⟩ = some (.int .u8 e.m)

theorem HeP.below {w w' : World} {e : He} (h : HeP w e) (hb : Below w.heap.size w w') : HeP w' e := ⟨h.l.below hb, h.r.below hb, h.lo, h.hi, h.len⟩

theorem Book.below {w w' : World} {v : Value} {es : List He} (h : Book w v es) (hb : Below w.heap.size w w') : Book w' v es := by
  obtain ⟨a, cap, rfl, h1, h2, h3⟩ := h
  refine ⟨a, cap, rfl, h1, h2, fun i e he => ?_⟩
  obtain ⟨hp, g, rfl, q0, q1, q2⟩ := h3 i e he
  have hk : ∀ {i : Nat} {u : Value}, w.cell? ⟨g, i, none⟩ = some u → w'.cell? ⟨g, i, none⟩ = some u := fun hc => (hb.cell (World.block_lt_of_cell? _ _ hc)).trans hc
  exact ⟨hp.below hb, g, rfl, hk q0, hk q1, hk q2⟩

/-- A byte of a slice that is read. -/
theorem SB.byteAt {w : World} {ao : Option Addr} {cap n : Nat} {l : List Int} (h : SB w (.slice ao n cap) l) {k : Nat} (hk : k < l.length) : ∃ b o, ao = some ⟨b, o, none⟩ ∧ w.cell? ⟨b, o + k, none⟩ = some (.int .u8 (l.getD k 0)) := by
  have hn : n = l.length := by
    obtain ⟨a, c, e⟩ := h.len
    simp only [Value.slice.injEq] at e
    exact e.2.1
  subst hn
  exact h.byte (Below.refl _ _) hk

theorem one_get {e : He} {k : Nat} (hk : k < e.n) : e.one.getD k 0 = e.m := by simp [He.one, List.getD, hk]

theorem more_get {e : He} {k : Nat} (hk : k < e.n) : e.more.getD k 0 = e.m := by
  simp [He.more, List.getD, List.getElem?_append_left, hk]

theorem more_last {e : He} : e.more.getD e.n 0 = IntKind.u8.wrap (e.m + 1) := by
  simp [He.more, List.getD]

set_option maxHeartbeats 2000000 in
theorem stands_any (v : Value) (es : List He) (w : World) (h : Book w v es) :
    Calls Try.prog 15 #[v] w fun e w' => e = .returned (.bool true) ∧ Below w.heap.size w w' := by
  have HB0 := hide h
  obtain ⟨ba, bc, rfl, hbc1, hbc2, h3⟩ := h
  unfold maxLen at hbc2
  have H3 := hide h3
  clear h3
  go_enter Try.func15, Try.ntmps15
  go_wp2
  go_loopw [3] (fun i wr => ∃ k : Nat, i = .int .i64 k ∧ k ≤ es.length ∧ Hid (Below w.heap.size w wr)) (fun i _ => es.length - (intOf i).toNat)
  case atStart => exact ⟨0, rfl, Nat.zero_le _, Below.refl _ _⟩
  case round =>
    obtain ⟨k, rfl, hk, HB⟩ := hrel
    by_cases hlt : k < es.length
    · have hlt' : (k : Int) < (es.length : Int) := by omega
      obtain ⟨e, he⟩ : ∃ e, es[k]? = some e := ⟨es[k], by simp [hlt]⟩
      obtain ⟨hp0, g, hab, q0', q1', q2'⟩ := H3.out k e he
      subst hab
      have hk' : ∀ {i : Nat} {u : Value}, w.cell? ⟨g, i, none⟩ = some u → wr.cell? ⟨g, i, none⟩ = some u := fun hc => (HB.out.cell (World.block_lt_of_cell? _ _ hc)).trans hc
      have q0 := hk' q0'
      have q1 := hk' q1'
      have q2 := hk' q2'
      have hp := hp0.below HB.out
      obtain ⟨la, lc, hL⟩ := hp.l.len
      obtain ⟨ma, mc, hM⟩ := hp.r.len
      rw [e.one_len] at hL
      rw [e.more_len] at hM
      have hlc : e.n ≤ lc ∧ lc ≤ 9223372036854775807 := by
        have := hp.l
        rw [hL, ← e.one_len] at this
        have := this.cap
        rwa [e.one_len] at this
      have hmc : e.n + 1 ≤ mc ∧ mc ≤ 9223372036854775807 := by
        have := hp.r
        rw [hM, ← e.more_len] at this
        have := this.cap
        rwa [e.more_len] at this
      rw [hL] at q0
      rw [hM] at q1
      have hml := hp.lo
      have hmh := hp.hi
      have hen := hp.len
      have HP := hide hp
      have HL := hide hL
      have HM := hide hM
      clear hp hp0 q0' q1' q2' hk' hL hM he
      obtain ⟨n, HN⟩ : ∃ n, Hid (n = e.n) := ⟨_, rfl⟩
      obtain ⟨m, HMk⟩ : ∃ m, Hid (m = e.m) := ⟨_, rfl⟩
      rw [← HN.out] at q0 q1 hlc hmc hen HL HM
      rw [← HMk.out] at q2 hml hmh
      obtain ⟨hlc1, hlc2⟩ := hlc
      obtain ⟨hmc1, hmc2⟩ := hmc
      obtain ⟨V, HV⟩ : ∃ V, Hid (V = wr.alloc (.cells #[.slice la n lc, .slice ma (n + 1) mc, .int .u8 m] 32)) := ⟨_, rfl⟩
      have HVB : Hid (Below wr.heap.size wr V) := by rw [HV.out]; exact (Below.refl _ _).alloc (Nat.le_refl _) _
      have hV : ∀ j, V.cell? ⟨wr.heap.size, j, none⟩ = #[Value.slice la n lc, .slice ma (n + 1) mc, .int .u8 m][j]? := fun j => by
        rw [HV.out]
        simp only [World.cell?, heap_alloc_new]
        rfl
      have v0 : V.cell? ⟨wr.heap.size, 0, none⟩ = some (.slice la n lc) := hV 0
      have v1 : V.cell? ⟨wr.heap.size, 1, none⟩ = some (.slice ma (n + 1) mc) := hV 1
      have v2 : V.cell? ⟨wr.heap.size, 2, none⟩ = some (.int .u8 m) := hV 2
      have HGL : Hid (∀ i, i < n → ∃ b o, la = some ⟨b, o, none⟩ ∧ V.cell? ⟨b, o + i, none⟩ = some (.int .u8 m)) := fun i hi => by
        have hs := (HP.out.below HVB.out).l
        rw [HL.out] at hs
        obtain ⟨b, o, h1, h2⟩ := hs.byteAt (k := i) (by rw [e.one_len, ← HN.out]; exact hi)
        rw [one_get (by rw [← HN.out]; exact hi), ← HMk.out] at h2
        exact ⟨b, o, h1, h2⟩
      have HGM : Hid (∀ i, i < n + 1 → ∃ b o, ma = some ⟨b, o, none⟩ ∧ V.cell? ⟨b, o + i, none⟩ = some (.int .u8 (if i < n then m else IntKind.u8.wrap (m + 1)))) := fun i hi => by
        have hs := (HP.out.below HVB.out).r
        rw [HM.out] at hs
        obtain ⟨b, o, h1, h2⟩ := hs.byteAt (k := i) (by rw [e.more_len, ← HN.out]; exact hi)
        refine ⟨b, o, h1, ?_⟩
        by_cases hin : i < n
        · rw [if_pos hin]
          rw [more_get (by rw [← HN.out]; exact hin), ← HMk.out] at h2
          exact h2
        · rw [if_neg hin]
          have : i = e.n := by rw [← HN.out]; omega
          subst this
          rw [more_last, ← HMk.out] at h2
          exact h2
      have HBV : Hid (Below w.heap.size w V) := HB.out.trans (HVB.out.mono HB.out.size)
      clear hV HP HL HM HVB
      go_wp2
      rw [← HV.out]
      go_loopw [5] (fun i wq => ∃ j q : Nat, i = .int .i64 j ∧ j ≤ n ∧ wq = V.drewN q) (fun i _ => n - (intOf i).toNat)
      case atStart => exact ⟨0, 0, rfl, Nat.zero_le _, rfl⟩
      case round =>
        obtain ⟨j, q, rfl, hj, rfl⟩ := hrel
        by_cases hjn : j < n
        · have hjn' : (j : Int) < (n : Int) := by omega
          obtain ⟨b1, o1, hla, c1⟩ := HGL.out j hjn
          obtain ⟨b2, o2, hma, c2⟩ := HGM.out j (by omega)
          rw [if_pos hjn] at c2
          subst hla hma
          go_wp2
          go_quiet (fail)
          go_wp2
          go_roundw
          case rel => exact ⟨j + 1, _, by go_num, by omega, by (try simp only [World.drewN_drewN]); rfl⟩
          case measure => simp [intOf]; omega
        · have hjn' : ¬ (j : Int) < (n : Int) := by omega
          obtain ⟨b2, o2, hma, c2⟩ := HGM.out n (by omega)
          rw [if_neg (by omega)] at c2
          obtain ⟨x, hx⟩ : ∃ x, IntKind.u8.wrap (m + 1) = x := ⟨_, rfl⟩
          rw [hx] at c2
          subst hma
          go_wp2
          go_quiet (fail)
          go_wp2
          go_roundw
          case rel => exact ⟨k + 1, by go_num, by omega, below_drewN HBV.out _⟩
          case measure => simp [intOf]; omega
    · have hlt' : ¬ (k : Int) < (es.length : Int) := by omega
      go_wp2
      go_ret
      exact ⟨rfl, HB.out⟩
end Go.Proofs.Ytklffkbcigehfab
