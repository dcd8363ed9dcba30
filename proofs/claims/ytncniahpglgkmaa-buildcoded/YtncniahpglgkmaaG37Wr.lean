import Derived.Test.YtncniahpglgkmaaG36Ndc
import Derived.Test.YtncniahpglgkmaaG12Arr
import Derived.Test.YtncniahpglgkmaaG10App
import Derived.Handy
namespace Go.Proofs.Ytncniahpglgkmaa
open Go.RowKit Go.Maps
set_option maxRecDepth 20000

/-- The first bits as a number, the first one the highest. -/
def mir (v : Int) (n : Nat) : Int := val (bts v n).reverse

theorem mir_succ (v : Int) (k : Nat) : mir v (k + 1) = v / 2 ^ k % 2 + 2 * mir v k := rev_snoc v k

theorem mir_bound (v : Int) (k : Nat) : 0 ≤ mir v k ∧ mir v k < 2 ^ k := rev_bound v k

def rowN (v : Int) : Nat := (mir v 15).toNat

theorem mir_div (v : Int) : ∀ m k, mir v k = mir v (k + m) / 2 ^ m
  | 0, k => by simp
  | m + 1, k => by
    rw [mir_div v m k, show k + (m + 1) = (k + m) + 1 by omega, mir_succ, pow_add1, ← Int.ediv_ediv_of_nonneg (by omega)]
    congr 1
    omega

theorem mir_row (v : Int) {n : Nat} (h : n ≤ 15) : mir v n = ((rowN v / 2 ^ (15 - n) : Nat) : Int) := by
  rw [mir_div v (15 - n) n, show n + (15 - n) = 15 by omega]
  unfold rowN
  have := (mir_bound v 15).1
  rw [Int.natCast_ediv, Int.toNat_of_nonneg this]
  push_cast
  rfl

theorem row_lt (v : Int) : rowN v < 32768 := by
  have := mir_bound v 15
  unfold rowN
  omega

noncomputable def fdS (l : List Int) (R : Nat) : Nat := by
  classical
  exact if h : ∃ s, Hit l R s then h.choose else 0

noncomputable def fdB (l : List Int) (R : Nat) : Bool := by
  classical
  exact decide (∃ s, Hit l R s)

theorem fd_hit {l : List Int} (hl : Lens l) {R s : Nat} (h : Hit l R s) : fdS l R = s ∧ fdB l R = true := by
  have he : ∃ s, Hit l R s := ⟨s, h⟩
  constructor
  · unfold fdS
    rw [dif_pos he]
    exact he.choose_spec.one hl h
  · unfold fdB
    exact @decide_eq_true _ (Classical.propDecidable _) he

theorem fd_none {l : List Int} {R : Nat} (h : ¬ ∃ s, Hit l R s) : fdS l R = 0 ∧ fdB l R = false := by
  constructor
  · unfold fdS
    rw [dif_neg h]
  · unfold fdB
    exact @decide_eq_false _ (Classical.propDecidable _) h

theorem i64_or1 {t b : Int} (h0 : 0 ≤ t) (h1 : t < 2147483648) (hb : b = 0 ∨ b = 1) : bits .or .i64 (t * 2) b = 2 * t + b := by
  rw [bits_join .i64 63 (by decide) (fun n a b => by rw [IntKind.wrap_i64]; omega) 1 (t * 2) b (by omega) (by omega) (by omega) (by omega) (by omega) (by omega)]
  omega

theorem dcE_zero {l : List Int} (h : dcE l = 0) : Lens l ∧ shp l ≠ 0 ∧ shp l ≠ 2 ∧ shp l ≠ 3 := by
  unfold dcE at h
  by_cases h0 : bkE l = 0
  · rw [if_neg (by simp [h0])] at h
    by_cases h2 : shp l = 0
    · rw [if_pos h2] at h; omega
    · have := bkE_zero h0
      exact ⟨this.1, h2, this.2⟩
  · rw [if_pos h0] at h; exact absurd h h0

theorem hit_sym {l sy : List Int} (hl : Lens l) (hs : SymOk l sy) {R n : Nat} (hn : n ≤ 15) (h0 : us l n ≤ R) (h1 : R < us l (n + 1)) : ∃ s j : Nat, Hit l R s ∧ shf l n + ((R / 2 ^ (15 - n) : Nat) : Int) = (j : Int) ∧ j < sy.length ∧ sy.getD j 0 = (s : Int) := by
  obtain ⟨s, a1, a2, a3⟩ := hit_at (l := l) hn h0 h1
  refine ⟨s, ix l s, a1, ?_, by rw [hs.1]; exact ix_lt hl a1.1, hs.2 s a1.1⟩
  rw [a3]
  unfold shf ix
  rw [a2]
  push_cast
  omega

set_option maxHeartbeats 1000000 in
theorem find_any {w : World} {K : Nat → Nat} {g : Nat} {l : List Int} (h : Dp w K g l) (v : Int) (hv0 : 0 ≤ v) (hv1 : v < 32768) :
    Calls Try.prog 43 #[.pointer (some ⟨g, 0, none⟩), .int .u32 v] w fun e w' => e = .returned (.tuple #[.int .i64 (fdS l (rowN v)), .bool (fdB l (rowN v))]) ∧ ∃ n, w' = w.drewN n := by
  obtain ⟨vl, vw, vs, sy, a1, a2, a3, a4, a5, _⟩ := h.d
  have hl := (dcE_zero h.ok).1
  have HL := hide hl
  have HD := hide a1
  have HV := hide a4
  have HS := hide a5
  clear h a1 a2 a3 a4 a5 hl
  obtain ⟨R, HR⟩ : ∃ R, Hid (R = rowN v) := ⟨_, rfl⟩
  rw [← HR.out]
  go_enter Try.func43, Try.ntmps43
  go_wp2
  go_loopw [1, 6, 7] (fun x t i wr => ∃ k : Nat, k ≤ 15 ∧ i = .int .i64 ((k : Int) + 1) ∧ x = .int .u32 (v / 2 ^ k) ∧ t = .int .i64 (mir v k) ∧ wr = w ∧ Hid (us l (k + 1) ≤ R)) (fun _ _ i _ => 16 - (intOf i).toNat)
  case atStart => exact ⟨0, Nat.zero_le _, rfl, by simp, rfl, rfl, by show _ ≤ _; simp [us, cn]⟩
  case round =>
    obtain ⟨k, hk, rfl, rfl, rfl, rfl, HU⟩ := hrel
    by_cases hlt : k < 15
    · have hlt' : (k : Int) + 1 ≤ 15 := by omega
      have hb := mir_bound v k
      have h15 : (2 : Int) ^ k ≤ 2 ^ 15 := pow_le (by omega)
      have hms := mir_succ v k
      have hrow := mir_row v (n := k + 1) (by omega)
      rw [← HR.out] at hrow
      obtain ⟨t, HT⟩ : ∃ t, Hid (t = mir v k) := ⟨_, rfl⟩
      obtain ⟨q, HQ⟩ : ∃ q, Hid (q = v / 2 ^ k) := ⟨_, rfl⟩
      obtain ⟨y, HY⟩ : ∃ y : Nat, Hid (y = R / 2 ^ (15 - (k + 1))) := ⟨_, rfl⟩
      rw [← HT.out] at hb hms ⊢
      rw [← HQ.out] at hms ⊢
      rw [← HY.out] at hrow
      have hy : 2 * t + q % 2 = (y : Int) := by omega
      have hq0 : 0 ≤ q := by rw [HQ.out]; exact Int.ediv_nonneg hv0 (Int.le_of_lt (pow_pos k))
      have hq1 : q < 4294967296 := by rw [HQ.out]; exact Int.lt_of_le_of_lt (Int.ediv_le_self _ hv0) (by omega)
      obtain ⟨t0, t1⟩ := hb
      have ht2 : t < 2147483648 := by omega
      have hand := u32_and1 hq0 hq1
      have hwc : IntKind.i64.wrap (q % 2) = q % 2 := by rw [IntKind.wrap_i64]; omega
      have hor := i64_or1 t0 ht2 (b := q % 2) (by omega)
      rw [hy] at hor
      have HQ2 : Hid (v / 2 ^ (k + 1) = q / 2) := by show _ = _; rw [HQ.out, Int.pow_succ, Int.ediv_ediv_of_nonneg (Int.le_of_lt (pow_pos k))]
      have HMR := hide hrow
      have ce : wr.cell? ⟨g, 19 + (k + 1), none⟩ = some (.int .i64 (en l (k + 1))) := by rw [cell_of_row _ _ _ _ _ _ HD.out, dv_g _ _ _ _ _ (by omega)]
      have hbe := below_end (l := l) (R := R) (n := k + 1) (by omega)
      rw [← HY.out] at hbe
      have he : en l (k + 1) = ((fi l (k + 1) + cn l (k + 1) : Nat) : Int) := by unfold en; push_cast; rfl
      have hyb : y < 32768 := by have := row_lt v; rw [← HR.out] at this; rw [HY.out]; exact Nat.lt_of_le_of_lt (Nat.div_le_self _ _) this
      obtain ⟨E, HEE⟩ : ∃ E : Nat, Hid (E = fi l (k + 1) + cn l (k + 1)) := ⟨_, rfl⟩
      rw [← HEE.out] at hbe he
      rw [he] at ce
      by_cases hin : y < E
      · have hin' : (y : Int) < (E : Int) := by omega
        obtain ⟨s, j, s1, s2, s3, s4⟩ := hit_sym HL.out HS.out (R := R) (n := k + 1) (by omega) HU.out (hbe.1 hin)
        rw [← HY.out] at s2
        obtain ⟨f1, f2⟩ := fd_hit HL.out s1
        have HF : Hid (fdS l R = s ∧ fdB l R = true) := ⟨f1, f2⟩
        obtain ⟨gs, c, hvs, _, _, hc1, hc2⟩ := HV.out.form (by omega)
        have cs := HV.out.get (b := gs) (by rw [hvs]; rfl) s3
        rw [s4] at cs
        have c2 : wr.cell? ⟨g, 2, none⟩ = some vs := by rw [cell_of_row _ _ _ _ _ _ HD.out, dv_2]
        have c3 : wr.cell? ⟨g, 3 + (k + 1), none⟩ = some (.int .i64 (shf l (k + 1))) := by rw [cell_of_row _ _ _ _ _ _ HD.out, dv_f _ _ _ _ _ (by omega)]
        have hx : shf l (k + 1) = (j : Int) - y := by omega
        rw [hx] at c3
        rw [hvs] at c2
        have e1 : (j : Int) - y + y = j := by omega
        have hjl : j < sy.length := s3
        have hj2 : sy.length ≤ 288 := by rw [HS.out.1]; exact Nat.le_trans (sh_le l 16) HL.out.1
        clear hbe he hms hrow hy t1 h15 s1 s2 s3 s4 hx f1 f2 HMR HU
        go_wp2
        go_quiet (fail)
        go_wp2
        go_ret2
        rw [HF.out.1, HF.out.2]
        exact ⟨rfl, _, rfl⟩
      · have hin' : ¬ (y : Int) < (E : Int) := by omega
        have HN : Hid (us l (k + 1 + 1) ≤ R) := by
          show _ ≤ _
          have := fun h => hin (hbe.2 h)
          omega
        clear hbe he hms hrow hy t1 h15 HU
        go_wp2
        go_roundw
        case rel => exact ⟨k + 1, by omega, by go_num, by rw [HQ2.out], by rw [HMR.out], by trivial, HN⟩
        case measure => simp [intOf]; omega
    · obtain rfl : k = 15 := by omega
      have hlt' : ¬ ((15 : Nat) : Int) + 1 ≤ 15 := by omega
      have hn : ¬ ∃ s, Hit l R s := fun ⟨s, hs⟩ => by have h1 := hs.top HL.out; have h2 : us l 16 ≤ R := HU.out; omega
      obtain ⟨f1, f2⟩ := fd_none hn
      have HF : Hid (fdS l R = 0 ∧ fdB l R = false) := ⟨f1, f2⟩
      clear hn f1 f2 HU
      go_wp2
      go_ret2
      rw [HF.out.1, HF.out.2]
      exact ⟨rfl, 0, rfl⟩
end Go.Proofs.Ytncniahpglgkmaa

namespace Go.Proofs.Ytncniahpglgkmaa
open Go.RowKit Go.Maps
set_option maxRecDepth 20000

/-- An object whose first cell is a list of bytes of its own. -/
structure WV (T : Nat) (rest : List Value) (w : World) (K : Nat → Nat) (g : Nat) (v : Value) (d : List Int) : Prop where
  s : w.heap[g]? = some (.cells (v :: rest).toArray T (0, 0))
  kg : K g = 1
  o : OB w 0 v d
  kv : ∀ k, v.ownBlock = some k → K k = 2
  sup : ∀ k, K k ≠ 0 → k < w.heap.size

theorem WV.lt {T : Nat} {rest : List Value} {w : World} {K : Nat → Nat} {g : Nat} {v : Value} {d : List Int} (h : WV T rest w K g v d) : g < w.heap.size := (Array.getElem?_eq_some_iff.1 h.s).1

theorem WV.ng {T : Nat} {rest : List Value} {w : World} {K : Nat → Nat} {g : Nat} {v : Value} {d : List Int} (h : WV T rest w K g v d) : v.ownBlock ≠ some g := fun e => by
  have := h.kv g e
  rw [h.kg] at this
  omega

theorem WV.cell {T : Nat} {rest : List Value} {w : World} {K : Nat → Nat} {g : Nat} {v : Value} {d : List Int} (h : WV T rest w K g v d) (i : Nat) : w.cell? ⟨g, i, none⟩ = (v :: rest)[i]? := by
  simp [World.cell?, h.s]

theorem WV.free {T : Nat} {rest : List Value} {w : World} {K : Nat → Nat} {g : Nat} {v : Value} {d : List Int} (h : WV T rest w K g v d) : ∀ o, w.frozen? ⟨g, o, none⟩ = false := fun o => by
  simp [World.frozen?, h.s]

theorem WV.far {T : Nat} {rest : List Value} {w w' : World} {K : Nat → Nat} {g : Nat} {v : Value} {d : List Int} (h : WV T rest w K g v d) (hsz : w.heap.size ≤ w'.heap.size) (hb : ∀ k, K k ≠ 0 → w'.heap[k]? = w.heap[k]?) : WV T rest w' K g v d :=
  ⟨(hb g (by rw [h.kg]; omega)).trans h.s, h.kg, h.o.move fun k hk => hb k (by rw [h.kv k hk]; omega), h.kv, fun k hk => Nat.lt_of_lt_of_le (h.sup k hk) hsz⟩

theorem WV.below {T : Nat} {rest : List Value} {w w' : World} {K : Nat → Nat} {g : Nat} {v : Value} {d : List Int} (h : WV T rest w K g v d) (hb : Below w.heap.size w w') : WV T rest w' K g v d := h.far hb.size fun k hk => hb.block k (h.sup k hk)

theorem WV.drewN {T : Nat} {rest : List Value} {w : World} {K : Nat → Nat} {g : Nat} {v : Value} {d : List Int} (h : WV T rest w K g v d) (n : Nat) : WV T rest (w.drewN n) K g v d := h.far (Nat.le_refl _) (fun _ _ => rfl)

theorem WV.block {T : Nat} {rest : List Value} {w w' : World} {K : Nat → Nat} {g : Nat} {v : Value} {d : List Int} (h : WV T rest w K g v d) {rest' : List Value} (hs : w'.heap[g]? = some (.cells (v :: rest').toArray T (0, 0))) (hz : w'.heap.size = w.heap.size) (hk : ∀ k, k ≠ g → w'.heap[k]? = w.heap[k]?) : WV T rest' w' K g v d :=
  ⟨hs, h.kg, h.o.move fun k hk' => hk k fun e => h.ng (by rw [← e]; exact hk'), h.kv, fun k hk' => by rw [hz]; exact h.sup k hk'⟩

theorem WV.fr {T : Nat} {rest : List Value} {w w' : World} {K : Nat → Nat} {g : Nat} {v : Value} {d : List Int} (h : WV T rest w K g v d) (h1 : w'.os = w.os) (h2 : w'.tape = w.tape) (h3 : w'.output = w.output) (hz : w'.heap.size = w.heap.size) (hk : ∀ k, k ≠ g → w'.heap[k]? = w.heap[k]?) : Fr K K w w' :=
  ⟨h1, h2, h3, by rw [hz]; exact Nat.le_refl _, fun k _ h0 => hk k fun e => by rw [e, h.kg] at h0; omega, fun _ _ => rfl⟩

/-- Another cell of the object is written. -/
theorem WV.set {T : Nat} {rest : List Value} {w : World} {K : Nat → Nat} {g : Nat} {v : Value} {d : List Int} (h : WV T rest w K g v d) (i : Nat) (u : Value) : WV T (rest.set i u) (w.setCell ⟨g, i + 1, none⟩ u) K g v d ∧ Fr K K w (w.setCell ⟨g, i + 1, none⟩ u) := by
  have hk := setCell_others w g (i + 1) u
  refine ⟨h.block ?_ (size_setCell _ _ _) hk, h.fr rfl rfl rfl (size_setCell _ _ _) hk⟩
  rw [heap_setCell_at u h.s]
  congr 2
  simp

/-- The bytes come to lie in a row that the append made or wrote. -/
theorem WV.put {T : Nat} {rest : List Value} {w w1 : World} {K : Nat → Nat} {g : Nat} {v v' : Value} {d d' : List Int} (h : WV T rest w K g v d) (hg : w.grownBy w1 v.ownBlock) (ho : OB w1 0 v' d') (hat : v'.ownBlock = v.ownBlock ∨ ∀ k, v'.ownBlock = some k → w.heap.size ≤ k) :
    ∃ K', WV T rest (w1.setCell ⟨g, 0, none⟩ v') K' g v' d' ∧ Fr K K' w (w1.setCell ⟨g, 0, none⟩ v') := by
  have hgl := h.lt
  have hng : v'.ownBlock ≠ some g := fun e => by
    rcases hat with h1 | h1
    · exact h.ng (h1 ▸ e)
    · have := h1 g e; omega
  refine ⟨fun k => if v'.ownBlock = some k then 2 else K k, ⟨?_, ?_, ?_, ?_, ?_⟩, ⟨hg.os, hg.tape, hg.output, by rw [size_setCell]; exact hg.size, fun k hk h0 => ?_, fun k hk => ?_⟩⟩
  · rw [heap_setCell_at v' ((hg.block g hgl (fun e => h.ng e.symm)).trans h.s)]
    congr 2
  · simp [hng, h.kg]
  · exact ho.move fun k hk => setCell_others w1 g _ _ k (fun e => hng (by rw [← e]; exact hk))
  · intro k hk; simp [hk]
  · intro k hk
    rw [size_setCell]
    by_cases e : v'.ownBlock = some k
    · exact (ho.lt k e).2
    · simp [e] at hk
      exact Nat.lt_of_lt_of_le (h.sup k hk) hg.size
  · have e1 : k ≠ g := fun e => by rw [e, h.kg] at h0; omega
    have e2 : v.ownBlock ≠ some k := fun e => by rw [h.kv k e] at h0; omega
    exact (setCell_others w1 g _ _ k e1).trans (hg.block k hk (fun e => e2 e.symm))
  · by_cases e : v'.ownBlock = some k
    · simp only [e, if_true]
      rcases hat with h1 | h1
      · exact (h.kv k (h1 ▸ e)).symm
      · have := h1 k e; omega
    · simp only [e, if_false]

/-- What stood in the first bytes of the row, and in other blocks, stands there still. -/
structure Stays (g : Nat) (w w' : World) (v : Value) (n : Nat) (v' : Value) (n' : Nat) : Prop where
  c : ∀ b i, b < w.heap.size → b ≠ g → (v.ownBlock = some b → i < n) → w'.cell? ⟨b, i, none⟩ = w.cell? ⟨b, i, none⟩
  at' : v'.ownBlock = v.ownBlock ∨ ∀ k, v'.ownBlock = some k → w.heap.size ≤ k
  le : n ≤ n'
  sz : w.heap.size ≤ w'.heap.size

theorem Stays.refl (g : Nat) (w : World) (v : Value) (n : Nat) : Stays g w w v n v n := ⟨fun _ _ _ _ _ => rfl, .inl rfl, Nat.le_refl _, Nat.le_refl _⟩

theorem Stays.trans {g : Nat} {a b c : World} {v1 v2 v3 : Value} {n1 n2 n3 : Nat} (h : Stays g a b v1 n1 v2 n2) (k : Stays g b c v2 n2 v3 n3) : Stays g a c v1 n1 v3 n3 := by
  refine ⟨fun x i hx hg hi => (k.c x i (Nat.lt_of_lt_of_le hx h.sz) hg (fun e => ?_)).trans (h.c x i hx hg hi), ?_, Nat.le_trans h.le k.le, Nat.le_trans h.sz k.sz⟩
  · rcases h.at' with e1 | e1
    · exact Nat.lt_of_lt_of_le (hi (by rw [← e1]; exact e)) h.le
    · have := e1 x e; omega
  · rcases k.at' with e1 | e1
    · rw [e1]; exact h.at'
    · exact .inr fun x hx => Nat.le_trans h.sz (e1 x hx)

theorem u64_or {r x : Int} {h n : Nat} (r0 : 0 ≤ r) (r1 : r < 2 ^ h) (x0 : 0 ≤ x) (x1 : x < 2 ^ n) (hn : h + n ≤ 63) : bits .or .u64 r (x * 2 ^ h) = r + x * 2 ^ h ∧ 0 ≤ x * 2 ^ h ∧ x * 2 ^ h < 2 ^ 63 ∧ r + x * 2 ^ h < 2 ^ (h + n) := by
  have hp := pow_pos h
  have hx0 : 0 ≤ x * 2 ^ h := Int.mul_nonneg x0 (by omega)
  have e : (2 : Int) ^ (h + n) = 2 ^ n * 2 ^ h := by rw [Nat.add_comm, Int.pow_add]
  have hx1 : x * 2 ^ h ≤ 2 ^ (h + n) - 2 ^ h := by
    rw [e]
    have := Int.mul_le_mul_of_nonneg_right (show x ≤ 2 ^ n - 1 by omega) (Int.le_of_lt hp)
    rw [Int.sub_mul] at this
    omega
  have h63 : (2 : Int) ^ (h + n) ≤ 2 ^ 63 := pow_le hn
  refine ⟨?_, hx0, by omega, by omega⟩
  have comm : bits .or .u64 r (x * 2 ^ h) = bits .or .u64 (x * 2 ^ h) r := by
    simp only [bits]
    rw [BitVec.or_comm]
  rw [comm, bits_join .u64 63 (by decide) (fun n a b => by rw [IntKind.wrap_u64]; omega) h (x * 2 ^ h) r hx0 (by simp) (by omega) r0 r1 (by omega)]
  omega

/-- The program's writer: whole bytes d, the bits r of a number h behind them. -/
def WW (w : World) (K : Nat → Nat) (g : Nat) (v : Value) (d : List Int) (r : Int) (h : Nat) : Prop := WV 70 [.int .u64 r, .int .i64 h] w K g v d

/-- append of bytes, as one step of a region that draws. -/
theorem step_app {ops : Array Oper} {o : Oper} {a : Act} {w : World} {Kk : Act → World → Prop} {Q : Exit → Act → World → Prop} {E : Prop}
    (hg : o.guard = none) (s x : Operand) (hop : o.op = Op.call { callee := Callee.builtin Builtin.append, args := #[s, x], argTypes := #[22, 22] })
    (v xv : Value) (l news : List Int) (hs : a.eval s = v) (hx : a.eval x = xv) (hown : OB w 0 v l) (hsrc : Src Try.prog 1 22 xv news.length (news.map (Value.int .u8)) w) (hne : news ≠ []) (hb : l.length + news.length ≤ 140737488355328)
    (hK : ∀ g cap w', OB w' 0 (.slice (some ⟨g, 0, none⟩) (l.length + news.length) cap) (l ++ news) → Grew w w' v (.slice (some ⟨g, 0, none⟩) (l.length + news.length) cap) → Kk (a.put o.dst (.slice (some ⟨g, 0, none⟩) (l.length + news.length) cap)) w') :
    if Region.wanted o (yielded ops a.tmps) = true then Oper.wp Try.prog o a w Kk Q else E := by
  have hw : Region.wanted o (yielded ops a.tmps) = true := by simp [Region.wanted, hg]
  rw [if_pos hw]
  obtain ⟨v', w', hr, h2, h3⟩ := run_app w 0 22 o.type v xv l news hown hsrc hb (Nat.zero_le _)
  have hn : 0 < news.length := List.length_pos_iff.2 hne
  obtain ⟨g, cap, rfl, _, _⟩ := World.ownsRow.form h2 (by rw [List.length_append]; omega)
  rw [List.length_append] at h2 h3 hr
  unfold Oper.wp
  simp [execOp, hop, resolve, invoke, builtin, hs, hx, hr, Result.andThen]
  refine hK g cap w' ?_ h3
  exact h2

theorem OB.get {w : World} {base : Nat} {v : Value} {l : List Int} (h : OB w base v l) {b : Nat} (hv : v.ownBlock = some b) {i : Nat} (hi : i < l.length) : w.cell? ⟨b, i, none⟩ = some (.int .u8 (l.getD i 0)) := by
  have hc := @World.ownsRow.cells _ _ _ _ _ _ _ h
  rcases h.2 with ⟨rfl, _⟩ | ⟨g, cap, cur, rfl, _⟩
  · simp [Value.ownBlock] at hv
  · simp [Value.ownBlock] at hv
    subst hv
    have := hc (g := g) rfl i (.int .u8 (l.getD i 0)) (by simp [hi])
    rw [Addr.add_lit] at this
    simpa using this

theorem Grew.stays {w w' : World} {v v' : Value} {d news : List Int} (h : Grew w w' v v') (ho : OB w 0 v d) (ho' : OB w' 0 v' (d ++ news)) {b i : Nat} (hb : b < w.heap.size) (hi : v.ownBlock = some b → i < d.length) : w'.cell? ⟨b, i, none⟩ = w.cell? ⟨b, i, none⟩ := by
  rcases h with ⟨_, rfl⟩ | ⟨_, hbel⟩ | ⟨he, _, hg⟩
  · rfl
  · exact World.cell?_of_block (hbel.block b hb)
  · by_cases e : v.ownBlock = some b
    · rw [ho.get e (hi e), ho'.get (he.trans e) (by rw [List.length_append]; have := hi e; omega)]
      simp only [List.getD, List.getElem?_append_left (hi e)]
    · exact World.cell?_of_block (hg.block b hb (fun x => e x.symm))

/-- A row of bits that is being put. -/
structure Half (row d : List Int) (R : Int) (h : Nat) : Prop where
  e : row = unpack d ++ bts R h
  b : Byt d
  r0 : 0 ≤ R
  r1 : R < 2 ^ h

theorem Half.step {row d : List Int} {R : Int} {h : Nat} (k : Half row d R h) (h8 : 8 ≤ h) : Half row (d ++ [R % 256]) (R / 256) (h - 8) := by
  obtain ⟨e, b, r0, r1⟩ := k
  refine ⟨?_, byt_append b (byt_one (by omega) (by omega)), by omega, ?_⟩
  · rw [e, unpack_append, unpack_one, List.append_assoc]
    congr 1
    have := bts_split R 8 (h - 8)
    rw [show 8 + (h - 8) = h by omega] at this
    rw [this, ← bts_mod R 8]
    rfl
  · have e2 : (2 : Int) ^ h = 2 ^ (h - 8) * 256 := by
      conv => lhs; rw [show h = (h - 8) + 8 by omega, Int.pow_add]
      rfl
    rw [e2] at r1
    exact Int.ediv_lt_of_lt_mul (by omega) r1

def putRel (w : World) (K : Nat → Nat) (g : Nat) (v : Value) (n : Nat) (row : List Int) (m : Nat) (wr : World) : Prop :=
  ∃ K1 v1 d1 R h, WW wr K1 g v1 d1 R h ∧ Half row d1 R h ∧ h ≤ 40 ∧ Fr K K1 w wr ∧ Stays g w wr v n v1 d1.length ∧ 8 * d1.length + h = m

theorem SB.heap {w w' : World} {v : Value} {l : List Int} (h : SB w v l) (e : w'.heap = w.heap) : SB w' v l :=
  h.move fun a u ha _ => by rw [World.cell?_of_block (w := w) (by rw [e])]; exact ha

theorem built_sb (w : World) (cs : List Int) (hm : cs.length ≤ maxLen) : SB (w.alloc (.cells (cs.map (Value.int .u8)).toArray 5)) (.slice (some ⟨w.heap.size, 0, none⟩) cs.length cs.length) cs := by
  refine ⟨_, _, rfl, Nat.le_refl _, hm, (fun h => by cases h), fun x hx i hi => ?_⟩
  cases hx
  rw [Addr.add_lit]
  have e := heap_alloc_new w (.cells (cs.map (Value.int .u8)).toArray 5)
  unfold World.cell?
  simp only [e]
  simp [hi]

theorem WW.next {wr W w6 : World} {K1 : Nat → Nat} {g : Nat} {v1 v' : Value} {d1 : List Int} {q R R' : Int} {h : Nat} {o : Obj} (HW : WW wr K1 g v1 d1 R h) (hW : W.heap = (wr.alloc o).heap) (h1 : W.os = wr.os) (h2 : W.tape = wr.tape) (h3 : W.output = wr.output) (ho : OB w6 0 v' (d1 ++ [q])) (hg : Grew W w6 v1 v') (x' : Int) (h' : Nat) (hx : x' = h') :
    ∃ K', WW (((w6.setCell ⟨g, 0, none⟩ v').setCell ⟨g, 1, none⟩ (.int .u64 R')).setCell ⟨g, 2, none⟩ (.int .i64 x')) K' g v' (d1 ++ [q]) R' h' ∧ Fr K1 K' wr (((w6.setCell ⟨g, 0, none⟩ v').setCell ⟨g, 1, none⟩ (.int .u64 R')).setCell ⟨g, 2, none⟩ (.int .i64 x')) ∧
      Stays g wr (((w6.setCell ⟨g, 0, none⟩ v').setCell ⟨g, 1, none⟩ (.int .u64 R')).setCell ⟨g, 2, none⟩ (.int .i64 x')) v1 d1.length v' (d1 ++ [q]).length := by
  subst hx
  have hgr : wr.grownBy W v1.ownBlock := ⟨h1, h2, h3, by rw [hW, size_alloc']; omega, fun k hk _ => by rw [hW]; exact Below.heap_alloc _ _ k hk⟩
  have hat : v'.ownBlock = v1.ownBlock ∨ ∀ k, v'.ownBlock = some k → wr.heap.size ≤ k := by
    rcases hg.at with e | e
    · exact .inr (fun k hk => by rw [e, hW, size_alloc'] at hk; cases hk; omega)
    · exact .inl e
  obtain ⟨K', a1, a2⟩ := HW.put (hgr.trans hg.by) ho hat
  obtain ⟨b1, b2⟩ := a1.set 0 (.int .u64 R')
  obtain ⟨c1, c2⟩ := b1.set 1 (.int .i64 h')
  refine ⟨K', c1, (a2.trans b2).trans c2, fun b i hb hbg hi => ?_, hat, by rw [List.length_append]; omega, ((a2.trans b2).trans c2).size⟩
  have e1 : (((w6.setCell ⟨g, 0, none⟩ v').setCell ⟨g, 1, none⟩ (.int .u64 R')).setCell ⟨g, 2, none⟩ (.int .i64 (h' : Int))).heap[b]? = w6.heap[b]? := (setCell_others _ g 2 _ b hbg).trans ((setCell_others _ g 1 _ b hbg).trans (setCell_others _ g 0 _ b hbg))
  rw [World.cell?_of_block e1, hg.stays (OB.move (w := wr) HW.o fun k hk => by rw [hW]; exact Below.heap_alloc _ _ k (HW.o.lt k hk).2) ho (by rw [hW, size_alloc']; omega) hi]
  exact World.cell?_of_block (by rw [hW]; exact Below.heap_alloc _ _ b hb)

set_option linter.unusedSimpArgs false in
set_option maxHeartbeats 4000000 in
theorem put_any {w : World} {K : Nat → Nat} {g : Nat} {v : Value} {d : List Int} {r : Int} {h : Nat} {row : List Int} (H0 : WW w K g v d r h) (L : Lies row d r h) (x : Int) (n : Nat) (x0 : 0 ≤ x) (x1 : x < 2 ^ n) (hn : n ≤ 32) (hd : d.length ≤ 140737488351232) :
    Calls Try.prog 55 #[.pointer (some ⟨g, 0, none⟩), .int .u64 x, .int .i64 n] w fun e w' => e = .returned (.tuple #[]) ∧ ∃ K' v' d' r' h', WW w' K' g v' d' r' h' ∧ Lies (row ++ bts x n) d' r' h' ∧ Fr K K' w w' ∧ Stays g w w' v d.length v' d'.length := by
  have H := hide H0
  have c0 : w.cell? ⟨g, 0, none⟩ = some v := H0.cell 0
  have c1 : w.cell? ⟨g, 1, none⟩ = some (.int .u64 r) := H0.cell 1
  have c2 : w.cell? ⟨g, 2, none⟩ = some (.int .i64 h) := H0.cell 2
  have hfz := H0.free
  obtain ⟨a, c, rfl⟩ := H0.o.shape
  have hh := L.h8
  obtain ⟨hor, hx0, hx1, hx2⟩ := u64_or L.r0 L.r1 x0 x1 (by omega)
  have hw : IntKind.u64.wrap (x * 2 ^ h) = x * 2 ^ h := by rw [IntKind.wrap_u64]; omega
  have HL := hide L
  clear H0 L x0 x1
  go_enter Try.func55, Try.ntmps55
  go_wp2
  go_region
  have HST : Hid (putRel w K g (.slice a d.length c) d.length (row ++ bts x n) (8 * d.length + (h + n)) ((w.setCell ⟨g, 1, none⟩ (.int .u64 (r + x * 2 ^ h))).setCell ⟨g, 2, none⟩ (.int .i64 ((h : Int) + n))).drew) := by
    obtain ⟨h1, f1⟩ := H.out.set 0 (.int .u64 (r + x * 2 ^ h))
    obtain ⟨h2, f2⟩ := h1.set 1 (.int .i64 ((h : Int) + n))
    have hL := HL.out
    have hp := pow_pos h
    refine ⟨K, .slice a d.length c, d, r + x * 2 ^ h, h + n, ?_, ⟨?_, hL.b, by have := hL.r0; omega, hx2⟩, by omega, ((f1.trans f2).drewN 1), ⟨fun b i hb hbg hi => ?_, .inl rfl, Nat.le_refl _, ((f1.trans f2).drewN 1).size⟩, rfl⟩
    · exact h2.drewN 1
    · rw [bts_join hL.r0 hL.r1, ← List.append_assoc, ← hL.e]
    · have e : ((w.setCell ⟨g, 1, none⟩ (.int .u64 (r + x * 2 ^ h))).setCell ⟨g, 2, none⟩ (.int .i64 ((h : Int) + n))).drew.heap[b]? = w.heap[b]? := (setCell_others _ g 2 _ b hbg).trans (setCell_others _ g 1 _ b hbg)
      exact World.cell?_of_block e
  have hm : d.length + 5 ≤ 140737488355328 := by omega
  obtain ⟨tr, HTR⟩ : ∃ tr, Hid (tr = row ++ bts x n) := ⟨_, rfl⟩
  rw [← HTR.out] at HST
  obtain ⟨M, HM⟩ : ∃ M, Hid (M = 8 * d.length + (h + n)) := ⟨_, rfl⟩
  rw [← HM.out] at HST
  have hM : M ≤ 8 * d.length + 40 := by rw [HM.out]; omega
  go_wp2
  clear hor hx0 hx1 hx2 hw c0 c1 c2 hfz
  go_loopw [] (fun wr => Hid (putRel w K g (.slice a d.length c) d.length tr M wr)) (fun wr => (intOf ((wr.cell? ⟨g, 2, none⟩).getD undef)).toNat)
  case atStart => exact HST
  case round =>
    clear HST
    obtain ⟨K1, v1, d1, R, hh1, hW, hHf, h40, hF, hS, hMM⟩ := hrel.out
    have hdl := hS.le
    clear hrel
    have HW := hide hW
    have HHf := hide hHf
    have HF := hide hF
    have HS := hide hS
    have c0 : wr.cell? ⟨g, 0, none⟩ = some v1 := hW.cell 0
    have c1 : wr.cell? ⟨g, 1, none⟩ = some (.int .u64 R) := hW.cell 1
    have c2 : wr.cell? ⟨g, 2, none⟩ = some (.int .i64 hh1) := hW.cell 2
    have hfz := hW.free
    have hgl := hW.lt
    obtain ⟨a1, p1, rfl⟩ := hW.o.shape
    clear hW hHf hF hS
    by_cases h8 : 8 ≤ hh1
    · have h8' : (8 : Int) ≤ hh1 := by omega
      obtain ⟨q, HQ⟩ : ∃ q, Hid (q = R % 256) := ⟨_, rfl⟩
      have hq : IntKind.u8.wrap R = q := by rw [IntKind.wrap_u8, HQ.out]
      have HK1 : Hid ((wr.alloc (.cells #[.int .u8 q] 5)).cell? ⟨g, 0, none⟩ = some (.slice a1 d1.length p1)) := by show _ = _; rw [((Below.refl wr.heap.size wr).alloc (Nat.le_refl _) _).cell hgl]; exact c0
      have k1 := HK1.out
      have HROW : Hid (∀ W : World, W.heap = (wr.alloc (.cells #[.int .u8 q] 5)).heap → OB W 0 (.slice a1 d1.length p1) d1) := fun W hW => OB.move (w := wr) HW.out.o fun x hx => by rw [hW]; exact Below.heap_alloc _ _ x (HW.out.o.lt x hx).2
      have HSRC : Hid (∀ W : World, W.heap = (wr.alloc (.cells #[.int .u8 q] 5)).heap → Src Try.prog 1 22 (.slice (some ⟨wr.heap.size, 0, none⟩) 1 1) ([q] : List Int).length (([q] : List Int).map (Value.int .u8)) W) := fun W hW => ((built_sb wr [q] (by unfold maxLen; simp)).heap hW).src
      have HLEN : Hid (d1.length + ([q] : List Int).length ≤ 140737488355328) := by show _ ≤ _; simp; omega
      have HG6 : Hid (∀ (W w6 : World) (u : Value), W.heap = (wr.alloc (.cells #[.int .u8 q] 5)).heap → Grew W w6 (.slice a1 d1.length p1) u → (w6.cell? ⟨g, 0, none⟩ = some (.slice a1 d1.length p1) ∧ w6.cell? ⟨g, 1, none⟩ = some (.int .u64 R) ∧ w6.cell? ⟨g, 2, none⟩ = some (.int .i64 hh1)) ∧ ∀ o, w6.frozen? ⟨g, o, none⟩ = false) := fun W w6 u hW hg => by
        have e1 : w6.heap[g]? = wr.heap[g]? := (hg.by.block g (by rw [hW, size_alloc']; omega) (fun e => HW.out.ng e.symm)).trans (by rw [hW]; exact Below.heap_alloc _ _ g hgl)
        have e2 := e1.trans HW.out.s
        exact ⟨⟨by simp [World.cell?, e2], by simp [World.cell?, e2], by simp [World.cell?, e2]⟩, fun o => by simp [World.frozen?, e2]⟩
      go_wp2
      go_region_law (refine step_app (by rfl) _ _ (by rfl) (.slice a1 d1.length p1) (.slice (some ⟨wr.heap.size, 0, none⟩) 1 1) d1 [q] (by simp [Act.eval, Act.put]) (by simp [Act.eval, Act.put]) (HROW.out _ (by rfl)) (HSRC.out _ (by rfl)) (by simp) HLEN.out ?_; intro gg cap6 w6 hown6 hgrow6; obtain ⟨⟨t0, t1, t2⟩, tf⟩ := HG6.out _ w6 _ (by rfl) hgrow6; have HALL := hide (And.intro hown6 hgrow6); clear hown6 hgrow6)
      all_goals
        have HN : Hid (putRel w K g (.slice a d.length c) d.length tr M (((w6.setCell ⟨g, 0, none⟩ (.slice (some ⟨gg, 0, none⟩) (d1.length + 1) cap6)).setCell ⟨g, 1, none⟩ (.int .u64 (R / 256))).setCell ⟨g, 2, none⟩ (.int .i64 ((hh1 : Int) - 8)))) := by
          obtain ⟨K', a1, a2, a3⟩ := HW.out.next (R' := R / 256) (by rfl) (by rfl) (by rfl) (by rfl) HALL.out.1 HALL.out.2 ((hh1 : Int) - 8) (hh1 - 8) (by omega)
          have hst := HHf.out.step h8
          rw [← HQ.out] at hst
          exact ⟨K', _, d1 ++ [q], R / 256, hh1 - 8, a1, hst, by omega, HF.out.trans a2, HS.out.trans a3, by rw [List.length_append]; simp only [List.length_singleton]; omega⟩
        have HMS : Hid ((intOf (((((w6.setCell ⟨g, 0, none⟩ (.slice (some ⟨gg, 0, none⟩) (d1.length + 1) cap6)).setCell ⟨g, 1, none⟩ (.int .u64 (R / 256))).setCell ⟨g, 2, none⟩ (.int .i64 ((hh1 : Int) - 8))).cell? ⟨g, 2, none⟩).getD undef)).toNat < (intOf ((wr.cell? ⟨g, 2, none⟩).getD undef)).toNat) := by
          obtain ⟨K', a1, a2, a3⟩ := HW.out.next (R' := R / 256) (by rfl) (by rfl) (by rfl) (by rfl) HALL.out.1 HALL.out.2 ((hh1 : Int) - 8) (hh1 - 8) (by omega)
          have hc2 := a1.cell 2
          simp only [List.length_cons, List.length_nil, Nat.zero_add] at hc2
          show _ < _
          rw [hc2, c2]
          simp [intOf]
          omega
        clear HALL HROW HSRC HG6 HK1 k1 c0 c1 c2
        go_wp2
        go_roundw
        case rel => exact HN
        case measure => exact HMS.out
    · have h8' : (hh1 : Int) < 8 := by omega
      have HFIN : Hid (∃ K' v' d' r' h', WW wr K' g v' d' r' h' ∧ Lies (row ++ bts x n) d' r' h' ∧ Fr K K' w wr ∧ Stays g w wr (.slice a d.length c) d.length v' d'.length) := ⟨K1, _, d1, R, hh1, HW.out, ⟨by rw [← HTR.out]; exact HHf.out.e, HHf.out.b, HHf.out.r0, HHf.out.r1, by omega⟩, HF.out, HS.out⟩
      clear c0 c1 hfz
      go_wp2
      (try simp only [Exit.inBlock, Exit.then]); refine bodyPost_end (results_none rfl _ _ _) rfl ?_
      exact ⟨rfl, HFIN.out⟩
end Go.Proofs.Ytncniahpglgkmaa

