import Derived.Test.YtmjdpfigkojolaaGreatDoorG03Ndc
import Derived.Test.YtmjdpfigkojolaaGreatDoorG00Oix
import Derived.Handy
namespace Go.Proofs.YtmjdpfigkojolaaGreatDoor
open Go.RowKit Go.Maps
set_option maxRecDepth 20000

def mir (v : Int) (n : Nat) : Int := val (bts v n).reverse

theorem mir_succ (v : Int) (k : Nat) : mir v (k + 1) = v / 2 ^ k % 2 + 2 * mir v k := rev_snoc v k

theorem mir_bound (v : Int) (k : Nat) : 0 ≤ mir v k ∧ mir v k < 2 ^ k := rev_bound v k

def rowN (v : Int) : Nat := (mir v 15).toNat

theorem mir_div (v : Int) : ∀ m k, mir v k = mir v (k + m) / 2 ^ m
  | 0, k => by simp
  | m + 1, k => by
    rw [mir_div v m k, show k + (m + 1) = (k + m) + 1 by omega, mir_succ, pow_add1, ← Int.ediv_ediv_of_nonneg (by omega)]
    congr 1
    omega

theorem mir_row (v : Int) {n : Nat} (h : n ≤ 15) : mir v n = ((rowN v / 2 ^ (15 - n) : Nat) : Int) := by
  rw [mir_div v (15 - n) n, show n + (15 - n) = 15 by omega]
  unfold rowN
  have := (mir_bound v 15).1
  rw [Int.natCast_ediv, Int.toNat_of_nonneg this]
  push_cast
  rfl

theorem row_lt (v : Int) : rowN v < 32768 := by
  have := mir_bound v 15
  unfold rowN
  omega

noncomputable def fdS (l : List Int) (R : Nat) : Nat := by
  classical
  exact if h : ∃ s, Hit l R s then h.choose else 0

noncomputable def fdB (l : List Int) (R : Nat) : Bool := by
  classical
  exact decide (∃ s, Hit l R s)

theorem fd_hit {l : List Int} (hl : Lens l) {R s : Nat} (h : Hit l R s) : fdS l R = s ∧ fdB l R = true := by
  have he : ∃ s, Hit l R s := ⟨s, h⟩
  constructor
  · unfold fdS
    rw [dif_pos he]
    exact he.choose_spec.one hl h
  · unfold fdB
    exact @decide_eq_true _ (Classical.propDecidable _) he

theorem fd_none {l : List Int} {R : Nat} (h : ¬ ∃ s, Hit l R s) : fdS l R = 0 ∧ fdB l R = false := by
  constructor
  · unfold fdS
    rw [dif_neg h]
  · unfold fdB
    exact @decide_eq_false _ (Classical.propDecidable _) h

theorem i64_or1 {t b : Int} (h0 : 0 ≤ t) (h1 : t < 2147483648) (hb : b = 0 ∨ b = 1) : bits .or .i64 (t * 2) b = 2 * t + b := by
  rw [bits_join .i64 63 (by decide) (fun n a b => by rw [IntKind.wrap_i64]; omega) 1 (t * 2) b (by omega) (by omega) (by omega) (by omega) (by omega) (by omega)]
  omega

theorem dcE_zero {l : List Int} (h : dcE l = 0) : Lens l ∧ shp l ≠ 0 ∧ shp l ≠ 2 ∧ shp l ≠ 3 := by
  unfold dcE at h
  by_cases h0 : bkE l = 0
  · rw [if_neg (by simp [h0])] at h
    by_cases h2 : shp l = 0
    · rw [if_pos h2] at h; omega
    · have := bkE_zero h0
      exact ⟨this.1, h2, this.2⟩
  · rw [if_pos h0] at h; exact absurd h h0

theorem hit_sym {l sy : List Int} (hl : Lens l) (hs : SymOk l sy) {R n : Nat} (hn : n ≤ 15) (h0 : us l n ≤ R) (h1 : R < us l (n + 1)) : ∃ s j : Nat, Hit l R s ∧ shf l n + ((R / 2 ^ (15 - n) : Nat) : Int) = (j : Int) ∧ j < sy.length ∧ sy.getD j 0 = (s : Int) := by
  obtain ⟨s, a1, a2, a3⟩ := hit_at (l := l) hn h0 h1
  refine ⟨s, ix l s, a1, ?_, by rw [hs.1]; exact ix_lt hl a1.1, hs.2 s a1.1⟩
  rw [a3]
  unfold shf ix
  rw [a2]
  push_cast
  omega

set_option maxHeartbeats 1000000 in
theorem find_any {w : World} {K : Nat → Nat} {g : Nat} {l : List Int} (h : Dp w K g l) (v : Int) (hv0 : 0 ≤ v) (hv1 : v < 32768) :
    Calls Tryz.prog 106 #[.pointer (some ⟨g, 0, none⟩), .int .u32 v] w fun e w' => e = .returned (.tuple #[.int .i64 (fdS l (rowN v)), .bool (fdB l (rowN v))]) ∧ ∃ n, w' = w.drewN n := by
  obtain ⟨vl, vw, vs, sy, a1, a2, a3, a4, a5, _⟩ := h.d
  have hl := (dcE_zero h.ok).1
  have HL := hide hl
  have HD := hide a1
  have HV := hide a4
  have HS := hide a5
  clear h a1 a2 a3 a4 a5 hl
  obtain ⟨R, HR⟩ : ∃ R, Hid (R = rowN v) := ⟨_, rfl⟩
  rw [← HR.out]
  go_enter Tryz.func106, Tryz.ntmps106
  go_wp2
  go_loopw [1, 6, 7] (fun x t i wr => ∃ k : Nat, k ≤ 15 ∧ i = .int .i64 ((k : Int) + 1) ∧ x = .int .u32 (v / 2 ^ k) ∧ t = .int .i64 (mir v k) ∧ wr = w ∧ Hid (us l (k + 1) ≤ R)) (fun _ _ i _ => 16 - (intOf i).toNat)
  case atStart => exact ⟨0, Nat.zero_le _, rfl, by simp, rfl, rfl, by show _ ≤ _; simp [us, cn]⟩
  case round =>
    obtain ⟨k, hk, rfl, rfl, rfl, rfl, HU⟩ := hrel
    by_cases hlt : k < 15
    · have hlt' : (k : Int) + 1 ≤ 15 := by omega
      have hb := mir_bound v k
      have h15 : (2 : Int) ^ k ≤ 2 ^ 15 := pow_le (by omega)
      have hms := mir_succ v k
      have hrow := mir_row v (n := k + 1) (by omega)
      rw [← HR.out] at hrow
      obtain ⟨t, HT⟩ : ∃ t, Hid (t = mir v k) := ⟨_, rfl⟩
      obtain ⟨q, HQ⟩ : ∃ q, Hid (q = v / 2 ^ k) := ⟨_, rfl⟩
      obtain ⟨y, HY⟩ : ∃ y : Nat, Hid (y = R / 2 ^ (15 - (k + 1))) := ⟨_, rfl⟩
      rw [← HT.out] at hb hms ⊢
      rw [← HQ.out] at hms ⊢
      rw [← HY.out] at hrow
      have hy : 2 * t + q % 2 = (y : Int) := by omega
      have hq0 : 0 ≤ q := by rw [HQ.out]; exact Int.ediv_nonneg hv0 (Int.le_of_lt (pow_pos k))
      have hq1 : q < 4294967296 := by rw [HQ.out]; exact Int.lt_of_le_of_lt (Int.ediv_le_self _ hv0) (by omega)
      obtain ⟨t0, t1⟩ := hb
      have ht2 : t < 2147483648 := by omega
      have hand := u32_and1 hq0 hq1
      have hwc : IntKind.i64.wrap (q % 2) = q % 2 := by rw [IntKind.wrap_i64]; omega
      have hor := i64_or1 t0 ht2 (b := q % 2) (by omega)
      rw [hy] at hor
      have HQ2 : Hid (v / 2 ^ (k + 1) = q / 2) := by show _ = _; rw [HQ.out, Int.pow_succ, Int.ediv_ediv_of_nonneg (Int.le_of_lt (pow_pos k))]
      have HMR := hide hrow
      have ce : wr.cell? ⟨g, 19 + (k + 1), none⟩ = some (.int .i64 (en l (k + 1))) := by rw [cell_of_row _ _ _ _ _ _ HD.out, dv_g _ _ _ _ _ (by omega)]
      have hbe := below_end (l := l) (R := R) (n := k + 1) (by omega)
      rw [← HY.out] at hbe
      have he : en l (k + 1) = ((fi l (k + 1) + cn l (k + 1) : Nat) : Int) := by unfold en; push_cast; rfl
      have hyb : y < 32768 := by have := row_lt v; rw [← HR.out] at this; rw [HY.out]; exact Nat.lt_of_le_of_lt (Nat.div_le_self _ _) this
      obtain ⟨E, HEE⟩ : ∃ E : Nat, Hid (E = fi l (k + 1) + cn l (k + 1)) := ⟨_, rfl⟩
      rw [← HEE.out] at hbe he
      rw [he] at ce
      by_cases hin : y < E
      · have hin' : (y : Int) < (E : Int) := by omega
        obtain ⟨s, j, s1, s2, s3, s4⟩ := hit_sym HL.out HS.out (R := R) (n := k + 1) (by omega) HU.out (hbe.1 hin)
        rw [← HY.out] at s2
        obtain ⟨f1, f2⟩ := fd_hit HL.out s1
        have HF : Hid (fdS l R = s ∧ fdB l R = true) := ⟨f1, f2⟩
        obtain ⟨gs, c, hvs, _, _, hc1, hc2⟩ := HV.out.form (by omega)
        have cs := HV.out.get (b := gs) (by rw [hvs]; rfl) s3
        rw [s4] at cs
        have c2 : wr.cell? ⟨g, 2, none⟩ = some vs := by rw [cell_of_row _ _ _ _ _ _ HD.out, dv_2]
        have c3 : wr.cell? ⟨g, 3 + (k + 1), none⟩ = some (.int .i64 (shf l (k + 1))) := by rw [cell_of_row _ _ _ _ _ _ HD.out, dv_f _ _ _ _ _ (by omega)]
        have hx : shf l (k + 1) = (j : Int) - y := by omega
        rw [hx] at c3
        rw [hvs] at c2
        have e1 : (j : Int) - y + y = j := by omega
        have hjl : j < sy.length := s3
        have hj2 : sy.length ≤ 288 := by rw [HS.out.1]; exact Nat.le_trans (sh_le l 16) HL.out.1
        clear hbe he hms hrow hy t1 h15 s1 s2 s3 s4 hx f1 f2 HMR HU
        go_wp2
        go_quiet (fail)
        go_wp2
        go_ret2
        rw [HF.out.1, HF.out.2]
        exact ⟨rfl, _, rfl⟩
      · have hin' : ¬ (y : Int) < (E : Int) := by omega
        have HN : Hid (us l (k + 1 + 1) ≤ R) := by
          show _ ≤ _
          have := fun h => hin (hbe.2 h)
          omega
        clear hbe he hms hrow hy t1 h15 HU
        go_wp2
        go_roundw
        case rel => exact ⟨k + 1, by omega, by go_num, by rw [HQ2.out], by rw [HMR.out], by trivial, HN⟩
        case measure => simp [intOf]; omega
    · obtain rfl : k = 15 := by omega
      have hlt' : ¬ ((15 : Nat) : Int) + 1 ≤ 15 := by omega
      have hn : ¬ ∃ s, Hit l R s := fun ⟨s, hs⟩ => by have h1 := hs.top HL.out; have h2 : us l 16 ≤ R := HU.out; omega
      obtain ⟨f1, f2⟩ := fd_none hn
      have HF : Hid (fdS l R = 0 ∧ fdB l R = false) := ⟨f1, f2⟩
      clear hn f1 f2 HU
      go_wp2
      go_ret2
      rw [HF.out.1, HF.out.2]
      exact ⟨rfl, 0, rfl⟩
end Go.Proofs.YtmjdpfigkojolaaGreatDoor

namespace Go.Proofs.YtmjdpfigkojolaaGreatDoor
open Go.RowKit Go.Maps
set_option maxRecDepth 20000

structure WV (T : Nat) (rest : List Value) (w : World) (K : Nat → Nat) (g : Nat) (v : Value) (d : List Int) : Prop where
  s : w.heap[g]? = some (.cells (v :: rest).toArray T (0, 0))
  kg : K g = 1
  o : OB w 0 v d
  kv : ∀ k, v.ownBlock = some k → K k = 2
  sup : ∀ k, K k ≠ 0 → k < w.heap.size

theorem WV.lt {T : Nat} {rest : List Value} {w : World} {K : Nat → Nat} {g : Nat} {v : Value} {d : List Int} (h : WV T rest w K g v d) : g < w.heap.size := (Array.getElem?_eq_some_iff.1 h.s).1

theorem WV.ng {T : Nat} {rest : List Value} {w : World} {K : Nat → Nat} {g : Nat} {v : Value} {d : List Int} (h : WV T rest w K g v d) : v.ownBlock ≠ some g := fun e => by
  have := h.kv g e
  rw [h.kg] at this
  omega

theorem WV.cell {T : Nat} {rest : List Value} {w : World} {K : Nat → Nat} {g : Nat} {v : Value} {d : List Int} (h : WV T rest w K g v d) (i : Nat) : w.cell? ⟨g, i, none⟩ = (v :: rest)[i]? := by
  simp [World.cell?, h.s]

theorem WV.free {T : Nat} {rest : List Value} {w : World} {K : Nat → Nat} {g : Nat} {v : Value} {d : List Int} (h : WV T rest w K g v d) : ∀ o, w.frozen? ⟨g, o, none⟩ = false := fun o => by
  simp [World.frozen?, h.s]

theorem WV.far {T : Nat} {rest : List Value} {w w' : World} {K : Nat → Nat} {g : Nat} {v : Value} {d : List Int} (h : WV T rest w K g v d) (hsz : w.heap.size ≤ w'.heap.size) (hb : ∀ k, K k ≠ 0 → w'.heap[k]? = w.heap[k]?) : WV T rest w' K g v d :=
  ⟨(hb g (by rw [h.kg]; omega)).trans h.s, h.kg, h.o.move fun k hk => hb k (by rw [h.kv k hk]; omega), h.kv, fun k hk => Nat.lt_of_lt_of_le (h.sup k hk) hsz⟩

theorem WV.below {T : Nat} {rest : List Value} {w w' : World} {K : Nat → Nat} {g : Nat} {v : Value} {d : List Int} (h : WV T rest w K g v d) (hb : Below w.heap.size w w') : WV T rest w' K g v d := h.far hb.size fun k hk => hb.block k (h.sup k hk)

theorem WV.drewN {T : Nat} {rest : List Value} {w : World} {K : Nat → Nat} {g : Nat} {v : Value} {d : List Int} (h : WV T rest w K g v d) (n : Nat) : WV T rest (w.drewN n) K g v d := h.far (Nat.le_refl _) (fun _ _ => rfl)

theorem WV.block {T : Nat} {rest : List Value} {w w' : World} {K : Nat → Nat} {g : Nat} {v : Value} {d : List Int} (h : WV T rest w K g v d) {rest' : List Value} (hs : w'.heap[g]? = some (.cells (v :: rest').toArray T (0, 0))) (hz : w'.heap.size = w.heap.size) (hk : ∀ k, k ≠ g → w'.heap[k]? = w.heap[k]?) : WV T rest' w' K g v d :=
  ⟨hs, h.kg, h.o.move fun k hk' => hk k fun e => h.ng (by rw [← e]; exact hk'), h.kv, fun k hk' => by rw [hz]; exact h.sup k hk'⟩

theorem WV.fr {T : Nat} {rest : List Value} {w w' : World} {K : Nat → Nat} {g : Nat} {v : Value} {d : List Int} (h : WV T rest w K g v d) (h1 : w'.os = w.os) (h2 : w'.tape = w.tape) (h3 : w'.output = w.output) (hz : w'.heap.size = w.heap.size) (hk : ∀ k, k ≠ g → w'.heap[k]? = w.heap[k]?) : Fr K K w w' :=
  ⟨h1, h2, h3, by rw [hz]; exact Nat.le_refl _, fun k _ h0 => hk k fun e => by rw [e, h.kg] at h0; omega, fun _ _ => rfl⟩

theorem WV.set {T : Nat} {rest : List Value} {w : World} {K : Nat → Nat} {g : Nat} {v : Value} {d : List Int} (h : WV T rest w K g v d) (i : Nat) (u : Value) : WV T (rest.set i u) (w.setCell ⟨g, i + 1, none⟩ u) K g v d ∧ Fr K K w (w.setCell ⟨g, i + 1, none⟩ u) := by
  have hk := setCell_others w g (i + 1) u
  refine ⟨h.block ?_ (size_setCell _ _ _) hk, h.fr rfl rfl rfl (size_setCell _ _ _) hk⟩
  rw [heap_setCell_at u h.s]
  congr 2
  simp

theorem WV.put {T : Nat} {rest : List Value} {w w1 : World} {K : Nat → Nat} {g : Nat} {v v' : Value} {d d' : List Int} (h : WV T rest w K g v d) (hg : w.grownBy w1 v.ownBlock) (ho : OB w1 0 v' d') (hat : v'.ownBlock = v.ownBlock ∨ ∀ k, v'.ownBlock = some k → w.heap.size ≤ k) :
    ∃ K', WV T rest (w1.setCell ⟨g, 0, none⟩ v') K' g v' d' ∧ Fr K K' w (w1.setCell ⟨g, 0, none⟩ v') := by
  have hgl := h.lt
  have hng : v'.ownBlock ≠ some g := fun e => by
    rcases hat with h1 | h1
    · exact h.ng (h1 ▸ e)
    · have := h1 g e; omega
  refine ⟨fun k => if v'.ownBlock = some k then 2 else K k, ⟨?_, ?_, ?_, ?_, ?_⟩, ⟨hg.os, hg.tape, hg.output, by rw [size_setCell]; exact hg.size, fun k hk h0 => ?_, fun k hk => ?_⟩⟩
  · rw [heap_setCell_at v' ((hg.block g hgl (fun e => h.ng e.symm)).trans h.s)]
    congr 2
  · simp [hng, h.kg]
  · exact ho.move fun k hk => setCell_others w1 g _ _ k (fun e => hng (by rw [← e]; exact hk))
  · intro k hk; simp [hk]
  · intro k hk
    rw [size_setCell]
    by_cases e : v'.ownBlock = some k
    · exact (ho.lt k e).2
    · simp [e] at hk
      exact Nat.lt_of_lt_of_le (h.sup k hk) hg.size
  · have e1 : k ≠ g := fun e => by rw [e, h.kg] at h0; omega
    have e2 : v.ownBlock ≠ some k := fun e => by rw [h.kv k e] at h0; omega
    exact (setCell_others w1 g _ _ k e1).trans (hg.block k hk (fun e => e2 e.symm))
  · by_cases e : v'.ownBlock = some k
    · simp only [e, if_true]
      rcases hat with h1 | h1
      · exact (h.kv k (h1 ▸ e)).symm
      · have := h1 k e; omega
    · simp only [e, if_false]

structure Stays (g : Nat) (w w' : World) (v : Value) (n : Nat) (v' : Value) (n' : Nat) : Prop where
  c : ∀ b i, b < w.heap.size → b ≠ g → (v.ownBlock = some b → i < n) → w'.cell? ⟨b, i, none⟩ = w.cell? ⟨b, i, none⟩
  at' : v'.ownBlock = v.ownBlock ∨ ∀ k, v'.ownBlock = some k → w.heap.size ≤ k
  le : n ≤ n'
  sz : w.heap.size ≤ w'.heap.size

theorem Stays.refl (g : Nat) (w : World) (v : Value) (n : Nat) : Stays g w w v n v n := ⟨fun _ _ _ _ _ => rfl, .inl rfl, Nat.le_refl _, Nat.le_refl _⟩

theorem Stays.trans {g : Nat} {a b c : World} {v1 v2 v3 : Value} {n1 n2 n3 : Nat} (h : Stays g a b v1 n1 v2 n2) (k : Stays g b c v2 n2 v3 n3) : Stays g a c v1 n1 v3 n3 := by
  refine ⟨fun x i hx hg hi => (k.c x i (Nat.lt_of_lt_of_le hx h.sz) hg (fun e => ?_)).trans (h.c x i hx hg hi), ?_, Nat.le_trans h.le k.le, Nat.le_trans h.sz k.sz⟩
  · rcases h.at' with e1 | e1
    · exact Nat.lt_of_lt_of_le (hi (by rw [← e1]; exact e)) h.le
    · have := e1 x e; omega
  · rcases k.at' with e1 | e1
    · rw [e1]; exact h.at'
    · exact .inr fun x hx => Nat.le_trans h.sz (e1 x hx)

theorem u64_or {r x : Int} {h n : Nat} (r0 : 0 ≤ r) (r1 : r < 2 ^ h) (x0 : 0 ≤ x) (x1 : x < 2 ^ n) (hn : h + n ≤ 63) : bits .or .u64 r (x * 2 ^ h) = r + x * 2 ^ h ∧ 0 ≤ x * 2 ^ h ∧ x * 2 ^ h < 2 ^ 63 ∧ r + x * 2 ^ h < 2 ^ (h + n) := by
  have hp := pow_pos h
  have hx0 : 0 ≤ x * 2 ^ h := Int.mul_nonneg x0 (by omega)
  have e : (2 : Int) ^ (h + n) = 2 ^ n * 2 ^ h := by rw [Nat.add_comm, Int.pow_add]
  have hx1 : x * 2 ^ h ≤ 2 ^ (h + n) - 2 ^ h := by
    rw [e]
    have := Int.mul_le_mul_of_nonneg_right (show x ≤ 2 ^ n - 1 by omega) (Int.le_of_lt hp)
    rw [Int.sub_mul] at this
    omega
  have h63 : (2 : Int) ^ (h + n) ≤ 2 ^ 63 := pow_le hn
  refine ⟨?_, hx0, by omega, by omega⟩
  have comm : bits .or .u64 r (x * 2 ^ h) = bits .or .u64 (x * 2 ^ h) r := by
    simp only [bits]
    rw [BitVec.or_comm]
  rw [comm, bits_join .u64 63 (by decide) (fun n a b => by rw [IntKind.wrap_u64]; omega) h (x * 2 ^ h) r hx0 (by simp) (by omega) r0 r1 (by omega)]
  omega

theorem step_app {ops : Array Oper} {o : Oper} {a : Act} {w : World} {Kk : Act → World → Prop} {Q : Exit → Act → World → Prop} {E : Prop}
    (hg : o.guard = none) (s x : Operand) (hop : o.op = Op.call { callee := Callee.builtin Builtin.append, args := #[s, x], argTypes := #[22, 22] })
    (v xv : Value) (l news : List Int) (hs : a.eval s = v) (hx : a.eval x = xv) (hown : OB w 0 v l) (hsrc : Src Tryz.prog 1 22 xv news.length (news.map (Value.int .u8)) w) (hne : news ≠ []) (hb : l.length + news.length ≤ 140737488355328)
    (hK : ∀ g cap w', OB w' 0 (.slice (some ⟨g, 0, none⟩) (l.length + news.length) cap) (l ++ news) → Grew w w' v (.slice (some ⟨g, 0, none⟩) (l.length + news.length) cap) → Kk (a.put o.dst (.slice (some ⟨g, 0, none⟩) (l.length + news.length) cap)) w') :
    if Region.wanted o (yielded ops a.tmps) = true then Oper.wp Tryz.prog o a w Kk Q else E := by
  have hw : Region.wanted o (yielded ops a.tmps) = true := by simp [Region.wanted, hg]
  rw [if_pos hw]
  obtain ⟨v', w', hr, h2, h3⟩ := run_app w 0 22 o.type v xv l news hown hsrc hb (Nat.zero_le _)
  have hn : 0 < news.length := List.length_pos_iff.2 hne
  obtain ⟨g, cap, rfl, _, _⟩ := World.ownsRow.form h2 (by rw [List.length_append]; omega)
  rw [List.length_append] at h2 h3 hr
  unfold Oper.wp
  simp [execOp, hop, resolve, invoke, builtin, hs, hx, hr, Result.andThen]
  refine hK g cap w' ?_ h3
  exact h2

theorem OB.get {w : World} {base : Nat} {v : Value} {l : List Int} (h : OB w base v l) {b : Nat} (hv : v.ownBlock = some b) {i : Nat} (hi : i < l.length) : w.cell? ⟨b, i, none⟩ = some (.int .u8 (l.getD i 0)) := by
  have hc := @World.ownsRow.cells _ _ _ _ _ _ _ h
  rcases h.2 with ⟨rfl, _⟩ | ⟨g, cap, cur, rfl, _⟩
  · simp [Value.ownBlock] at hv
  · simp [Value.ownBlock] at hv
    subst hv
    have := hc (g := g) rfl i (.int .u8 (l.getD i 0)) (by simp [hi])
    rw [Addr.add_lit] at this
    simpa using this

theorem SB.heap {w w' : World} {v : Value} {l : List Int} (h : SB w v l) (e : w'.heap = w.heap) : SB w' v l :=
  h.move fun a u ha _ => by rw [World.cell?_of_block (w := w) (by rw [e])]; exact ha

theorem built_sb (w : World) (cs : List Int) (hm : cs.length ≤ maxLen) : SB (w.alloc (.cells (cs.map (Value.int .u8)).toArray 5)) (.slice (some ⟨w.heap.size, 0, none⟩) cs.length cs.length) cs := by
  refine ⟨_, _, rfl, Nat.le_refl _, hm, (fun h => by cases h), fun x hx i hi => ?_⟩
  cases hx
  rw [Addr.add_lit]
  have e := heap_alloc_new w (.cells (cs.map (Value.int .u8)).toArray 5)
  unfold World.cell?
  simp only [e]
  simp [hi]

end Go.Proofs.YtmjdpfigkojolaaGreatDoor

namespace Go.Proofs.YtmjdpfigkojolaaGreatDoor
open Go.RowKit Go.Maps
set_option maxRecDepth 20000

def putOk (row : List Int) (v n : Int) : Prop := Fit v n ∧ (row.length : Int) + n ≤ 268435456
instance (row : List Int) (v n : Int) : Decidable (putOk row v n) := by unfold putOk; exact inferInstance
def putE (row : List Int) (v n : Int) : Int := if putOk row v n then 0 else 1
def putRow (row : List Int) (v n : Int) : List Int := if putOk row v n then row ++ bts v n.toNat else row

end Go.Proofs.YtmjdpfigkojolaaGreatDoor

namespace Go.Proofs.YtmjdpfigkojolaaGreatDoor
open Go.RowKit Go.Maps
set_option maxRecDepth 20000

def Rp (w : World) (K : Nat → Nat) (g : Nat) (row : List Int) (p : Nat) : Prop := ∃ v d, WV 104 [.int .i64 p] w K g v d ∧ row = unpack d ∧ Byt d ∧ p ≤ 8 * d.length ∧ d.length ≤ 33554432

theorem Rp.far {w w' : World} {K : Nat → Nat} {g : Nat} {row : List Int} {p : Nat} (h : Rp w K g row p) (hsz : w.heap.size ≤ w'.heap.size) (hb : ∀ k, K k ≠ 0 → w'.heap[k]? = w.heap[k]?) : Rp w' K g row p := by
  obtain ⟨v, d, h1, h2, h3, h4⟩ := h
  exact ⟨v, d, h1.far hsz hb, h2, h3, h4⟩

theorem Rp.drewN {w : World} {K : Nat → Nat} {g : Nat} {row : List Int} {p : Nat} (h : Rp w K g row p) (n : Nat) : Rp (w.drewN n) K g row p := h.far (Nat.le_refl _) (fun _ _ => rfl)

theorem Rp.sup {w : World} {K : Nat → Nat} {g : Nat} {row : List Int} {p : Nat} (h : Rp w K g row p) : ∀ k, K k ≠ 0 → k < w.heap.size := by
  obtain ⟨_, _, h, _⟩ := h
  exact h.sup

theorem Rp.bit {w : World} {K : Nat → Nat} {g : Nat} {row : List Int} {p : Nat} (h : Rp w K g row p) : Bit row := by
  obtain ⟨_, _, _, h, _⟩ := h
  rw [h]; exact bit_unpack _

theorem Rp.le {w : World} {K : Nat → Nat} {g : Nat} {row : List Int} {p : Nat} (h : Rp w K g row p) : p ≤ row.length ∧ row.length ≤ 268435456 ∧ row.length % 8 = 0 := by
  obtain ⟨_, _, _, h, _, h3, h4⟩ := h
  rw [h, length_unpack]; omega

theorem Rp.move {w : World} {K : Nat → Nat} {g : Nat} {row : List Int} {p : Nat} (h : Rp w K g row p) (q : Nat) (x : Int) (hx : x = q) (hq : q ≤ row.length) : Rp (w.setCell ⟨g, 1, none⟩ (.int .i64 x)) K g row q ∧ Fr K K w (w.setCell ⟨g, 1, none⟩ (.int .i64 x)) := by
  subst hx
  obtain ⟨v, d, h1, h2, h3, h4, h5⟩ := h
  obtain ⟨a1, a2⟩ := h1.set 0 (.int .i64 q)
  exact ⟨⟨v, d, a1, h2, h3, by rw [h2, length_unpack] at hq; exact hq, h5⟩, a2⟩

theorem rdat_any {w : World} {K : Nat → Nat} {g : Nat} {row : List Int} {p : Nat} (h : Rp w K g row p) :
    Calls Tryz.prog 39 #[.pointer (some ⟨g, 0, none⟩)] w fun e w' => e = .returned (.int .i64 p) ∧ w' = w := by
  obtain ⟨v, d, h1, -⟩ := h
  have c1 : w.cell? ⟨g, 1, none⟩ = some (.int .i64 p) := h1.cell 1
  clear h1
  go_enter Tryz.func39, Tryz.ntmps39
  go_wp2
  go_ret
  exact ⟨rfl, rfl⟩

theorem rdleft_any {w : World} {K : Nat → Nat} {g : Nat} {row : List Int} {p : Nat} (h : Rp w K g row p) :
    Calls Tryz.prog 81 #[.pointer (some ⟨g, 0, none⟩)] w fun e w' => e = .returned (.int .i64 ((row.length : Int) - p)) ∧ ∃ n, w' = w.drewN n := by
  obtain ⟨v, d, h1, h2, h3, h4, h5⟩ := h
  have c0 : w.cell? ⟨g, 0, none⟩ = some v := h1.cell 0
  have c1 : w.cell? ⟨g, 1, none⟩ = some (.int .i64 p) := h1.cell 1
  obtain ⟨a, c, rfl⟩ := h1.o.shape
  have HL : Hid (((row.length : Int) - p) = 8 * d.length - p) := by show _ = _; rw [h2, length_unpack]; omega
  rw [HL.out]
  clear h1 h2
  go_enter Tryz.func81, Tryz.ntmps81
  go_wp2
  go_quiet (fail)
  go_wp2
  go_ret
  exact ⟨rfl, _, rfl⟩

theorem pow256 (k : Nat) : (256 : Int) ^ k = 2 ^ (8 * k) := by
  rw [Int.pow_mul]
  rfl

theorem u64_mask {x : Int} {n : Nat} (h0 : 0 ≤ x) (h1 : x < 2 ^ 63) (hn : n ≤ 32) : bits .and .u64 x (2 ^ n - 1) = x % 2 ^ n :=
  bits_mask .u64 63 (by decide) (fun n a b => by rw [IntKind.wrap_u64]; omega) n (by omega) x h0 h1

def MadeR (w : World) (row : List Int) (e : Ending) (w' : World) : Prop := ∃ g K, e = .returned (.pointer (some ⟨g, 0, none⟩)) ∧ Rp w' K g row 0 ∧ (∀ k, K k ≠ 0 → w.heap.size ≤ k) ∧ Below w.heap.size w w'

theorem newReader_any (u : Value) (l : List Int) (w : World) (h : SB w u l) (hB : Byt l) (hl : l.length ≤ 33554432) :
    Calls Tryz.prog 38 #[u] w fun e w' => MadeR w (unpack l) e w' := by
  have H := hide h
  have HBy := hide hB
  obtain ⟨a, c, hu, _⟩ := h
  subst hu
  clear hB
  go_enter Tryz.func38, Tryz.ntmps38
  go_wp2_with fail
  refine (slicesClone_any _ l w H.out (by omega)).mono ?_
  rintro e w1 ⟨a1, c1, rfl, ho, hb⟩
  have HO := hide ho
  have HB := hide hb
  clear ho hb
  go_wp2
  go_ret
  have hsz := HB.out.size
  refine ⟨_, fun k => if k = w1.heap.size then 1 else if (Value.slice a1 l.length c1).ownBlock = some k then 2 else 0, rfl, ⟨.slice a1 l.length c1, l, ⟨heap_alloc_new _ _, by simp, ?_, fun k hk => ?_, fun k hk => ?_⟩, rfl, HBy.out, by omega, hl⟩, fun k hk => ?_, HB.out.trans ((Below.refl _ _).alloc hsz _)⟩
  · exact (HO.out.alloc _).base (Nat.zero_le _)
  · have := HO.out.lt k hk
    rw [if_neg (by omega), if_pos hk]
  · rw [size_alloc']
    by_cases e1 : k = w1.heap.size
    · omega
    · rw [if_neg e1] at hk
      by_cases e2 : (Value.slice a1 l.length c1).ownBlock = some k
      · have := HO.out.lt k e2; omega
      · rw [if_neg e2] at hk; omega
  · by_cases e1 : k = w1.heap.size
    · omega
    · simp only [if_neg e1] at hk
      by_cases e2 : (Value.slice a1 l.length c1).ownBlock = some k
      · exact (HO.out.lt k e2).1
      · rw [if_neg e2] at hk; omega

theorem getD_piece (d : List Int) {F L k : Nat} (hk : k < L) : ((d.drop F).take L).getD k 0 = d.getD (F + k) 0 := by
  simp [List.getD, hk]

theorem piece_cells {w : World} {b c : Nat} {d l : List Int} {F L : Nat} (h : OB w 0 (.slice (some ⟨b, 0, none⟩) d.length c) d) (hl : l = (d.drop F).take L) (hb : F + L ≤ d.length) : l.length = L ∧ ∀ k, k < l.length → w.cell? ⟨b, F + k, none⟩ = some (.int .u8 (l.getD k 0)) := by
  have e : l.length = L := by rw [hl, List.length_take, List.length_drop]; omega
  refine ⟨e, fun k hk => ?_⟩
  rw [h.get rfl (i := F + k) (by omega), hl, getD_piece d (by omega)]

theorem ahead_any {w : World} {K : Nat → Nat} {g : Nat} {row : List Int} {p : Nat} (h : Rp w K g row p) (n : Nat) (hn : n ≤ 32) :
    Calls Tryz.prog 82 #[.pointer (some ⟨g, 0, none⟩), .int .i64 n] w fun e w' => e = .returned (.int .u32 (ahead row p n)) ∧ ∃ m, w' = w.drewN m := by
  have hAb := ahead_bound h.bit p n
  obtain ⟨v, d, h1, h2, h3, h4, h5⟩ := h
  have c0 : w.cell? ⟨g, 0, none⟩ = some v := h1.cell 0
  have c1 : w.cell? ⟨g, 1, none⟩ = some (.int .i64 p) := h1.cell 1
  have HO := hide h1.o
  obtain ⟨a, c, rfl⟩ := h1.o.shape
  have HBy := hide h3
  obtain ⟨_, _, hve, hcc, hcm, _⟩ := h1.o.sb
  simp only [Value.slice.injEq] at hve
  obtain ⟨-, -, rfl⟩ := hve
  unfold maxLen at hcm
  clear h1 h3
  obtain ⟨F, HF⟩ : ∃ F : Nat, Hid (F = p / 8) := ⟨_, rfl⟩
  obtain ⟨S, HSS⟩ : ∃ S : Nat, Hid (S = p % 8) := ⟨_, rfl⟩
  have hp8 : ((p : Int) / 8) = (F : Int) := by rw [HF.out]; omega
  have hps : ((p : Int) % 8) = (S : Int) := by rw [HSS.out]; omega
  have hpF1 : 8 * F ≤ p := by rw [HF.out]; omega
  have hpF2 : p < 8 * F + 8 := by rw [HF.out]; omega
  have hS8 : S < 8 := by rw [HSS.out]; omega
  by_cases hedge : c = F
  · have hdF : d.length = F := by omega
    have HZ : Hid (ahead row p n = 0) := by
      have := ahead_bytes HBy.out p n _ rfl h4
      rw [show min ((p + n + 7) / 8) d.length - p / 8 = 0 by omega] at this
      show _ = _
      rw [h2, ← this]
      simp [le]
    rw [HZ.out]
    have hp32 : (2 : Int) ^ n ≤ 2 ^ 32 := pow_le hn
    have hpn := pow_pos n
    have hwn : IntKind.u64.wrap ((2 : Int) ^ n) = 2 ^ n := by rw [IntKind.wrap_u64]; omega
    have hwn1 : IntKind.u64.wrap ((2 : Int) ^ n - 1) = 2 ^ n - 1 := by rw [IntKind.wrap_u64]; omega
    have hmask := u64_mask (x := 0) (n := n) (by omega) (by omega) hn
    have hmask' : bits .and .u64 0 (2 ^ n - 1) = 0 := by rw [hmask]; simp
    have hle : ¬ ((p : Int) + n + 7) / 8 < (d.length : Int) := by omega
    subst hedge
    have hdi : (d.length : Int) = c := by omega
    clear hp32 hpn hmask h2 hAb HZ hdF
    go_enter Tryz.func82, Tryz.ntmps82
    go_wp2
    go_quiet (fail)
    rename_i nq _
    have c0 : (w.drewN nq).cell? ⟨g, 0, none⟩ = some (.slice a d.length c) := c0
    have c1 : (w.drewN nq).cell? ⟨g, 1, none⟩ = some (.int .i64 p) := c1
    go_wp2
    all_goals
      refine wp_loop_rounds 1 ?_
      rw [rounds_succ]
      go_wp2
      go_quiet (fail)
      go_wp2
      go_ret
      refine ⟨?_, _, World.drewN_drewN _ _ _⟩
      first | rfl | (simp [hmask']; done) | trace_state
  have hsome : ∃ b, a = some ⟨b, 0, none⟩ := by
    rcases HO.out.2 with ⟨e, h0⟩ | ⟨gb, c', cur, e, _⟩
    · simp only [Value.slice.injEq] at e
      have : c = 0 := e.2.2
      omega
    · simp only [Value.slice.injEq] at e
      exact ⟨gb, e.1⟩
  obtain ⟨b, rfl⟩ := hsome
  by_cases hm : (p + n + 7) / 8 ≤ d.length
  · obtain ⟨q, HQ⟩ : ∃ q : Nat, Hid (q = (p + n + 7) / 8) := ⟨_, rfl⟩
    have hq : ((p : Int) + n + 7) / 8 = (q : Int) := by rw [HQ.out]; omega
    have hqd : q ≤ d.length := by rw [HQ.out]; exact hm
    have hq1 : F ≤ q := by rw [HQ.out]; omega
    have hq2 : q = (p + n + 7) / 8 := HQ.out
    have HA : Hid (le ((d.drop F).take (q - F)) / 2 ^ S % 2 ^ n = ahead row p n) := by show _ = _; rw [h2, HF.out, HSS.out]; exact ahead_bytes HBy.out p n _ (by rw [HF.out] at *; omega) h4
    have hL : q - F ≤ 5 := by omega
    obtain ⟨l, HLl⟩ : ∃ l, Hid (l = (d.drop F).take (q - F)) := ⟨_, rfl⟩
    obtain ⟨hll, hcl⟩ := piece_cells HO.out HLl.out (by omega)
    have HG := hide hcl
    have HBl : Hid (Byt l) := by rw [HLl.out]; exact byt_take (byt_drop HBy.out _) _
    rw [← HLl.out] at HA
    obtain ⟨L, HLL⟩ : ∃ L, Hid (L = q - F) := ⟨_, rfl⟩
    have hLL : q - F = L := HLL.out.symm
    have hll' : l.length = L := by rw [hll, hLL]
    have hL5 : L ≤ 5 := by omega
    have HLE := hide hll'
    clear hm hq2
    clear hcl hll hll' hL h2 hAb
    go_enter Tryz.func82, Tryz.ntmps82
    go_wp2
    go_quiet (fail)
    rename_i nq _
    have c0 : (w.drewN nq).cell? ⟨g, 0, none⟩ = some (.slice (some ⟨b, 0, none⟩) d.length c) := c0
    have c1 : (w.drewN nq).cell? ⟨g, 1, none⟩ = some (.int .i64 p) := c1
    go_wp2
    go_loopw [7, 37] (fun x i wr => ∃ k : Nat, k ≤ L ∧ i = .int .i64 k ∧ x = .int .u64 (le (l.take k)) ∧ wr = w.drewN nq) (fun _ i _ => L - (intOf i).toNat)
    case atStart => exact ⟨0, Nat.zero_le _, rfl, rfl, rfl⟩
    case round =>
      obtain ⟨k, hk, rfl, rfl, rfl⟩ := hrel
      have hb := le_bound (byt_take HBl.out k)
      rw [List.length_take, HLE.out, Nat.min_eq_left hk, pow256] at hb
      obtain ⟨V, HV⟩ : ∃ V, Hid (V = le (l.take k)) := ⟨_, rfl⟩
      rw [← HV.out] at hb ⊢
      obtain ⟨V0, V1⟩ := hb
      by_cases hlt : k < L
      · obtain ⟨y, hy, HY⟩ : ∃ y, (w.drewN nq).cell? ⟨b, F + k, none⟩ = some (.int .u8 y) ∧ Hid (y = l.getD k 0) := ⟨_, HG.out k (by rw [HLE.out]; exact hlt), rfl⟩
        have hy01 : 0 ≤ y ∧ y < 256 := by rw [HY.out]; exact HBl.out k
        obtain ⟨hy0, hy1⟩ := hy01
        obtain ⟨hor, hz0, hz1, _⟩ := u64_or (r := V) (x := y) (h := 8 * k) (n := 8) V0 V1 hy0 hy1 (by omega)
        have hw : IntKind.u64.wrap (y * 2 ^ (8 * k)) = y * 2 ^ (8 * k) := by rw [IntKind.wrap_u64]; omega
        have HT : Hid (le (l.take (k + 1)) = V + y * 2 ^ (8 * k)) := by
          show _ = _
          rw [le_take (by rw [HLE.out]; exact hlt), ← HV.out, ← HY.out, pow256, Int.mul_comm]
        have hlt' : (k : Int) < (L : Int) := by omega
        clear hz0 hz1 V1
        go_wp2
        go_roundw
        case rel => exact ⟨k + 1, by omega, by go_num, by rw [HT.out], by trivial⟩
        case measure => simp [intOf]; omega
      · have hkL : k = L := by omega
        have HVL : Hid (V = le l) := by show _ = _; rw [HV.out, List.take_of_length_le (by rw [HLE.out]; omega)]
        have hlt' : ¬ (k : Int) < (L : Int) := by omega
        have h40 : (2 : Int) ^ (8 * k) ≤ 2 ^ 40 := pow_le (by omega)
        have hvs0 : 0 ≤ V / 2 ^ S := Int.ediv_nonneg V0 (Int.le_of_lt (pow_pos S))
        have hvs1 : V / 2 ^ S ≤ V := Int.ediv_le_self _ V0
        have hmask := u64_mask (x := V / 2 ^ S) (n := n) hvs0 (by omega) hn
        have hp32 : (2 : Int) ^ n ≤ 2 ^ 32 := pow_le hn
        have hpn := pow_pos n
        have hwn : IntKind.u64.wrap ((2 : Int) ^ n) = 2 ^ n := by rw [IntKind.wrap_u64]; omega
        have hwn1 : IntKind.u64.wrap ((2 : Int) ^ n - 1) = 2 ^ n - 1 := by rw [IntKind.wrap_u64]; omega
        have hr0 : 0 ≤ V / 2 ^ S % 2 ^ n := Int.emod_nonneg _ (by omega)
        have hr1 : V / 2 ^ S % 2 ^ n < 2 ^ n := Int.emod_lt_of_pos _ hpn
        have hwr : IntKind.u32.wrap (V / 2 ^ S % 2 ^ n) = V / 2 ^ S % 2 ^ n := by rw [IntKind.wrap_u32]; omega
        have HAV : Hid (V / 2 ^ S % 2 ^ n = ahead row p n) := by show _ = _; rw [HVL.out]; exact HA.out
        have HWR := hide hwr
        have HMK := hide hmask
        clear h40 hvs1 hp32 hpn hr0 hr1 hmask hwr V1
        go_wp2
        go_quiet (fail)
        go_wp2
        go_ret
        refine ⟨?_, _, World.drewN_drewN _ _ _⟩
        show Ending.returned (Value.int .u32 (IntKind.u32.wrap (bits .and .u64 (V / 2 ^ S) (2 ^ n - 1)))) = _
        rw [HMK.out, HWR.out, HAV.out]
  · have hq : (d.length : Int) < ((p : Int) + n + 7) / 8 := by omega
    have hq1 : F ≤ d.length := by omega
    have HA : Hid (le ((d.drop F).take (d.length - F)) / 2 ^ S % 2 ^ n = ahead row p n) := by show _ = _; rw [h2, HF.out, HSS.out]; exact ahead_bytes HBy.out p n _ (by rw [HF.out] at *; omega) h4
    have hL : d.length - F ≤ 5 := by omega
    obtain ⟨l, HLl⟩ : ∃ l, Hid (l = (d.drop F).take (d.length - F)) := ⟨_, rfl⟩
    obtain ⟨hll, hcl⟩ := piece_cells HO.out HLl.out (by omega)
    have HG := hide hcl
    have HBl : Hid (Byt l) := by rw [HLl.out]; exact byt_take (byt_drop HBy.out _) _
    rw [← HLl.out] at HA
    obtain ⟨L, HLL⟩ : ∃ L, Hid (L = d.length - F) := ⟨_, rfl⟩
    have hLL : d.length - F = L := HLL.out.symm
    have hll' : l.length = L := by rw [hll, hLL]
    have hL5 : L ≤ 5 := by omega
    have HLE := hide hll'
    clear hm
    clear hcl hll hll' hL h2 hAb
    go_enter Tryz.func82, Tryz.ntmps82
    go_wp2
    go_quiet (fail)
    rename_i nq _
    have c0 : (w.drewN nq).cell? ⟨g, 0, none⟩ = some (.slice (some ⟨b, 0, none⟩) d.length c) := c0
    have c1 : (w.drewN nq).cell? ⟨g, 1, none⟩ = some (.int .i64 p) := c1
    go_wp2
    go_loopw [7, 37] (fun x i wr => ∃ k : Nat, k ≤ L ∧ i = .int .i64 k ∧ x = .int .u64 (le (l.take k)) ∧ wr = w.drewN nq) (fun _ i _ => L - (intOf i).toNat)
    case atStart => exact ⟨0, Nat.zero_le _, rfl, rfl, rfl⟩
    case round =>
      obtain ⟨k, hk, rfl, rfl, rfl⟩ := hrel
      have hb := le_bound (byt_take HBl.out k)
      rw [List.length_take, HLE.out, Nat.min_eq_left hk, pow256] at hb
      obtain ⟨V, HV⟩ : ∃ V, Hid (V = le (l.take k)) := ⟨_, rfl⟩
      rw [← HV.out] at hb ⊢
      obtain ⟨V0, V1⟩ := hb
      by_cases hlt : k < L
      · obtain ⟨y, hy, HY⟩ : ∃ y, (w.drewN nq).cell? ⟨b, F + k, none⟩ = some (.int .u8 y) ∧ Hid (y = l.getD k 0) := ⟨_, HG.out k (by rw [HLE.out]; exact hlt), rfl⟩
        have hy01 : 0 ≤ y ∧ y < 256 := by rw [HY.out]; exact HBl.out k
        obtain ⟨hy0, hy1⟩ := hy01
        obtain ⟨hor, hz0, hz1, _⟩ := u64_or (r := V) (x := y) (h := 8 * k) (n := 8) V0 V1 hy0 hy1 (by omega)
        have hw : IntKind.u64.wrap (y * 2 ^ (8 * k)) = y * 2 ^ (8 * k) := by rw [IntKind.wrap_u64]; omega
        have HT : Hid (le (l.take (k + 1)) = V + y * 2 ^ (8 * k)) := by
          show _ = _
          rw [le_take (by rw [HLE.out]; exact hlt), ← HV.out, ← HY.out, pow256, Int.mul_comm]
        have hlt' : (k : Int) < (L : Int) := by omega
        clear hz0 hz1 V1
        go_wp2
        go_roundw
        case rel => exact ⟨k + 1, by omega, by go_num, by rw [HT.out], by trivial⟩
        case measure => simp [intOf]; omega
      · have hkL : k = L := by omega
        have HVL : Hid (V = le l) := by show _ = _; rw [HV.out, List.take_of_length_le (by rw [HLE.out]; omega)]
        have hlt' : ¬ (k : Int) < (L : Int) := by omega
        have h40 : (2 : Int) ^ (8 * k) ≤ 2 ^ 40 := pow_le (by omega)
        have hvs0 : 0 ≤ V / 2 ^ S := Int.ediv_nonneg V0 (Int.le_of_lt (pow_pos S))
        have hvs1 : V / 2 ^ S ≤ V := Int.ediv_le_self _ V0
        have hmask := u64_mask (x := V / 2 ^ S) (n := n) hvs0 (by omega) hn
        have hp32 : (2 : Int) ^ n ≤ 2 ^ 32 := pow_le hn
        have hpn := pow_pos n
        have hwn : IntKind.u64.wrap ((2 : Int) ^ n) = 2 ^ n := by rw [IntKind.wrap_u64]; omega
        have hwn1 : IntKind.u64.wrap ((2 : Int) ^ n - 1) = 2 ^ n - 1 := by rw [IntKind.wrap_u64]; omega
        have hr0 : 0 ≤ V / 2 ^ S % 2 ^ n := Int.emod_nonneg _ (by omega)
        have hr1 : V / 2 ^ S % 2 ^ n < 2 ^ n := Int.emod_lt_of_pos _ hpn
        have hwr : IntKind.u32.wrap (V / 2 ^ S % 2 ^ n) = V / 2 ^ S % 2 ^ n := by rw [IntKind.wrap_u32]; omega
        have HAV : Hid (V / 2 ^ S % 2 ^ n = ahead row p n) := by show _ = _; rw [HVL.out]; exact HA.out
        have HWR := hide hwr
        have HMK := hide hmask
        clear h40 hvs1 hp32 hpn hr0 hr1 hmask hwr V1
        go_wp2
        go_quiet (fail)
        go_wp2
        go_ret
        refine ⟨?_, _, World.drewN_drewN _ _ _⟩
        show Ending.returned (Value.int .u32 (IntKind.u32.wrap (bits .and .u64 (V / 2 ^ S) (2 ^ n - 1)))) = _
        rw [HMK.out, HWR.out, HAV.out]

end Go.Proofs.YtmjdpfigkojolaaGreatDoor

namespace Go.Proofs.YtmjdpfigkojolaaGreatDoor
open Go.RowKit Go.Maps
set_option maxRecDepth 20000

def takeOk (row : List Int) (p : Nat) (n : Int) : Prop := Cnt n ∧ n ≤ (row.length : Int) - p
instance (row : List Int) (p : Nat) (n : Int) : Decidable (takeOk row p n) := by unfold takeOk; exact inferInstance
def takeE (row : List Int) (p : Nat) (n : Int) : Int := if Cnt n then (if n ≤ (row.length : Int) - p then 0 else 30) else 1
def takeV (row : List Int) (p : Nat) (n : Int) : Int := if takeOk row p n then ahead row p n.toNat else 0
def takeP (row : List Int) (p : Nat) (n : Int) : Nat := if takeOk row p n then p + n.toNat else p

theorem rdtake_any {w : World} {K : Nat → Nat} {g : Nat} {row : List Int} {p : Nat} (h : Rp w K g row p) (n : Int) :
    Calls Tryz.prog 58 #[.pointer (some ⟨g, 0, none⟩), .int .i64 n] w fun e w' => e = .returned (.tuple #[.int .u32 (takeV row p n), .int .i64 (takeE row p n)]) ∧ Rp w' K g row (takeP row p n) ∧ Fr K K w w' := by
  have H := hide h
  have hle := h.le
  obtain ⟨v, d, h1, -⟩ := h
  have c1 : ∀ q, (w.drewN q).cell? ⟨g, 1, none⟩ = some (.int .i64 p) := fun q => h1.cell 1
  have cf : ∀ q, (w.drewN q).frozen? ⟨g, 1, none⟩ = false := fun q => h1.free 1
  clear h1
  by_cases hc : Cnt n
  case neg =>
    have HE : Hid (takeE row p n = 1 ∧ takeV row p n = 0 ∧ takeP row p n = p) := ⟨if_neg hc, if_neg fun h => hc h.1, if_neg fun h => hc h.1⟩
    have HC : Hid (decide (Cnt n) = false) := decide_eq_false hc
    clear hc c1 cf
    go_enter Tryz.func58, Tryz.ntmps58
    go_wp2_with fail
    refine (countable_any _ _).mono ?_
    rintro e w' ⟨rfl, rfl⟩
    rw [HC.out]
    go_wp2
    go_ret2
    rw [HE.out.1, HE.out.2.1, HE.out.2.2]
    exact ⟨rfl, H.out, Fr.refl _ _⟩
  case pos =>
  have HC : Hid (decide (Cnt n) = true) := decide_eq_true hc
  by_cases hl : n ≤ (row.length : Int) - p
  case neg =>
    have HE : Hid (takeE row p n = 30 ∧ takeV row p n = 0 ∧ takeP row p n = p) := ⟨by show (if _ then _ else _) = _; rw [if_pos hc, if_neg hl], if_neg fun h => hl h.2, if_neg fun h => hl h.2⟩
    clear hc c1 cf
    go_enter Tryz.func58, Tryz.ntmps58
    go_wp2_with fail
    refine (countable_any _ _).mono ?_
    rintro e w' ⟨rfl, rfl⟩
    rw [HC.out]
    go_wp2_with fail
    refine (rdleft_any H.out).mono ?_
    rintro e w1 ⟨rfl, q, rfl⟩
    go_wp2
    go_ret2
    rw [HE.out.1, HE.out.2.1, HE.out.2.2]
    exact ⟨rfl, H.out.drewN _, (Fr.refl _ _).drewN _⟩
  case pos =>
    have HE : Hid (takeE row p n = 0 ∧ takeV row p n = ahead row p n.toNat ∧ takeP row p n = p + n.toNat) := ⟨by show (if _ then _ else _) = _; rw [if_pos hc, if_pos hl], if_pos ⟨hc, hl⟩, if_pos ⟨hc, hl⟩⟩
    obtain ⟨n0, n1⟩ := hc
    obtain ⟨m, rfl⟩ : ∃ m : Nat, n = m := ⟨n.toNat, by omega⟩
    have HM : Hid (∀ q, Rp ((w.drewN q).setCell ⟨g, 1, none⟩ (.int .i64 ((p : Int) + m))) K g row (p + m) ∧ Fr K K w ((w.drewN q).setCell ⟨g, 1, none⟩ (.int .i64 ((p : Int) + m)))) := fun q => by
      obtain ⟨a1, a2⟩ := (H.out.drewN q).move (p + m) ((p : Int) + m) (by omega) (by omega)
      exact ⟨a1, ((Fr.refl _ _).drewN q).trans a2⟩
    go_enter Tryz.func58, Tryz.ntmps58
    go_wp2_with fail
    refine (countable_any _ _).mono ?_
    rintro e w' ⟨rfl, rfl⟩
    rw [HC.out]
    go_wp2_with fail
    refine (rdleft_any H.out).mono ?_
    rintro e w1 ⟨rfl, q, rfl⟩
    go_wp2_with fail
    refine (ahead_any (H.out.drewN q) m (by omega)).mono ?_
    rintro e w1 ⟨rfl, q2, rfl⟩
    go_wp2
    go_ret2
    rw [HE.out.1, HE.out.2.1, HE.out.2.2]
    exact ⟨rfl, HM.out _⟩

def peekV (row : List Int) (p : Nat) (n : Int) : Int := if Cnt n then ahead row p n.toNat else 0
def peekK (row : List Int) (p : Nat) (n : Int) : Int := if Cnt n then min n ((row.length : Int) - p) else 0

theorem rdpeek_any {w : World} {K : Nat → Nat} {g : Nat} {row : List Int} {p : Nat} (h : Rp w K g row p) (n : Int) :
    Calls Tryz.prog 105 #[.pointer (some ⟨g, 0, none⟩), .int .i64 n] w fun e w' => e = .returned (.tuple #[.int .u32 (peekV row p n), .int .i64 (peekK row p n)]) ∧ ∃ q, w' = w.drewN q := by
  have H := hide h
  have hle := h.le
  clear h
  by_cases hc : Cnt n
  case neg =>
    have HE : Hid (peekV row p n = 0 ∧ peekK row p n = 0) := ⟨if_neg hc, if_neg hc⟩
    have HC : Hid (decide (Cnt n) = false) := decide_eq_false hc
    clear hc
    go_enter Tryz.func105, Tryz.ntmps105
    go_wp2_with fail
    refine (countable_any _ _).mono ?_
    rintro e w' ⟨rfl, rfl⟩
    rw [HC.out]
    go_wp2
    go_ret2
    rw [HE.out.1, HE.out.2]
    exact ⟨rfl, 0, rfl⟩
  case pos =>
    have HC : Hid (decide (Cnt n) = true) := decide_eq_true hc
    have HE : Hid (peekV row p n = ahead row p n.toNat ∧ peekK row p n = min n ((row.length : Int) - p)) := ⟨if_pos hc, if_pos hc⟩
    obtain ⟨n0, n1⟩ := hc
    obtain ⟨m, rfl⟩ : ∃ m : Nat, n = m := ⟨n.toNat, by omega⟩
    go_enter Tryz.func105, Tryz.ntmps105
    go_wp2_with fail
    refine (countable_any _ _).mono ?_
    rintro e w' ⟨rfl, rfl⟩
    rw [HC.out]
    go_wp2_with fail
    refine (ahead_any H.out m (by omega)).mono ?_
    rintro e w1 ⟨rfl, q2, rfl⟩
    go_wp2_with fail
    refine (rdleft_any (H.out.drewN q2)).mono ?_
    rintro e w1 ⟨rfl, q, rfl⟩
    go_wp2
    all_goals go_ret2
    all_goals rw [HE.out.1, HE.out.2]
    all_goals refine ⟨?_, _, rfl⟩
    all_goals first
      | (rw [show min (m : Int) ((row.length : Int) - p) = (m : Int) by omega]; rfl)
      | (rw [show min (m : Int) ((row.length : Int) - p) = (row.length : Int) - p by omega]; rfl)

def skipE (row : List Int) (p : Nat) (n : Int) : Int := if n < 0 then 1 else if n ≤ (row.length : Int) - p then 0 else 30
def skipP (row : List Int) (p : Nat) (n : Int) : Nat := if n < 0 then p else if n ≤ (row.length : Int) - p then p + n.toNat else p

theorem rdskip_any {w : World} {K : Nat → Nat} {g : Nat} {row : List Int} {p : Nat} (h : Rp w K g row p) (n : Int) :
    Calls Tryz.prog 78 #[.pointer (some ⟨g, 0, none⟩), .int .i64 n] w fun e w' => e = .returned (.int .i64 (skipE row p n)) ∧ Rp w' K g row (skipP row p n) ∧ Fr K K w w' := by
  have H := hide h
  have hle := h.le
  obtain ⟨v, d, h1, -⟩ := h
  have c1 : ∀ q, (w.drewN q).cell? ⟨g, 1, none⟩ = some (.int .i64 p) := fun q => h1.cell 1
  have cf : ∀ q, (w.drewN q).frozen? ⟨g, 1, none⟩ = false := fun q => h1.free 1
  clear h1
  by_cases hn : n < 0
  · have HE : Hid (skipE row p n = 1 ∧ skipP row p n = p) := ⟨if_pos hn, if_pos hn⟩
    clear c1 cf
    go_enter Tryz.func78, Tryz.ntmps78
    go_wp2
    go_ret
    rw [HE.out.1, HE.out.2]
    exact ⟨rfl, H.out, Fr.refl _ _⟩
  by_cases hl : n ≤ (row.length : Int) - p
  · have HE : Hid (skipE row p n = 0 ∧ skipP row p n = p + n.toNat) := ⟨by show (if _ then _ else _) = _; rw [if_neg hn, if_pos hl], by show (if _ then _ else _) = _; rw [if_neg hn, if_pos hl]⟩
    obtain ⟨m, rfl⟩ : ∃ m : Nat, n = m := ⟨n.toNat, by omega⟩
    have HM : Hid (∀ q, Rp ((w.drewN q).setCell ⟨g, 1, none⟩ (.int .i64 ((p : Int) + m))) K g row (p + m) ∧ Fr K K w ((w.drewN q).setCell ⟨g, 1, none⟩ (.int .i64 ((p : Int) + m)))) := fun q => by
      obtain ⟨a1, a2⟩ := (H.out.drewN q).move (p + m) ((p : Int) + m) (by omega) (by omega)
      exact ⟨a1, ((Fr.refl _ _).drewN q).trans a2⟩
    go_enter Tryz.func78, Tryz.ntmps78
    go_wp2_with fail
    refine (rdleft_any H.out).mono ?_
    rintro e w1 ⟨rfl, q, rfl⟩
    go_wp2
    go_ret
    rw [HE.out.1, HE.out.2]
    exact ⟨rfl, HM.out _⟩
  · have HE : Hid (skipE row p n = 30 ∧ skipP row p n = p) := ⟨by show (if _ then _ else _) = _; rw [if_neg hn, if_neg hl], by show (if _ then _ else _) = _; rw [if_neg hn, if_neg hl]⟩
    clear c1 cf
    go_enter Tryz.func78, Tryz.ntmps78
    go_wp2_with fail
    refine (rdleft_any H.out).mono ?_
    rintro e w1 ⟨rfl, q, rfl⟩
    go_wp2
    go_ret
    rw [HE.out.1, HE.out.2]
    exact ⟨rfl, H.out.drewN _, (Fr.refl _ _).drewN _⟩

def algn (p : Nat) : Nat := (p + 7) / 8 * 8

theorem rdalign_any {w : World} {K : Nat → Nat} {g : Nat} {row : List Int} {p : Nat} (h : Rp w K g row p) :
    Calls Tryz.prog 59 #[.pointer (some ⟨g, 0, none⟩)] w fun e w' => e = .returned (.tuple #[]) ∧ Rp w' K g row (algn p) ∧ Fr K K w w' := by
  have H := hide h
  have hle := h.le
  obtain ⟨v, d, h1, -⟩ := h
  have c1 : w.cell? ⟨g, 1, none⟩ = some (.int .i64 p) := h1.cell 1
  have cf : w.frozen? ⟨g, 1, none⟩ = false := h1.free 1
  have HM := hide (H.out.move (algn p) (((p : Int) + 7) / 8 * 8) (by unfold algn; omega) (by unfold algn; omega))
  clear h1
  go_enter Tryz.func59, Tryz.ntmps59
  go_wp2
  (try simp only [Exit.inBlock, Exit.then]); refine bodyPost_end (results_none rfl _ _ _) rfl ?_
  exact ⟨rfl, HM.out⟩

def rrawE (row : List Int) (p : Nat) (n : Int) : Int := if n < 0 then 1 else if p % 8 ≠ 0 then 31 else if n ≤ ((row.length : Int) - p) / 8 then 0 else 30
noncomputable def rrawL (row : List Int) (p : Nat) (n : Int) : List Int := if rrawE row p n = 0 then pack ((row.drop p).take (8 * n.toNat)) else []
def rrawP (row : List Int) (p : Nat) (n : Int) : Nat := if rrawE row p n = 0 then p + 8 * n.toNat else p

theorem rdraw_any {w : World} {K : Nat → Nat} {g : Nat} {row : List Int} {p : Nat} (h : Rp w K g row p) (n : Int) :
    Calls Tryz.prog 61 #[.pointer (some ⟨g, 0, none⟩), .int .i64 n] w fun e w' => ∃ a c, e = .returned (.tuple #[.slice a (rrawL row p n).length c, .int .i64 (rrawE row p n)]) ∧ OB w' w.heap.size (.slice a (rrawL row p n).length c) (rrawL row p n) ∧ Rp w' K g row (rrawP row p n) ∧ Fr K K w w' := by
  have H := hide h
  have hle := h.le
  obtain ⟨v, d, h1, h2, h3, h4, h5⟩ := h
  have c0 : ∀ q, (w.drewN q).cell? ⟨g, 0, none⟩ = some v := fun q => h1.cell 0
  have c1 : ∀ q, (w.drewN q).cell? ⟨g, 1, none⟩ = some (.int .i64 p) := fun q => h1.cell 1
  have c1' : w.cell? ⟨g, 1, none⟩ = some (.int .i64 p) := h1.cell 1
  have cf : ∀ q, (w.drewN q).frozen? ⟨g, 1, none⟩ = false := fun q => h1.free 1
  have HW := hide h1
  have HU := hide h2
  have HBy := hide h3
  have hrl : row.length = 8 * d.length := by rw [h2, length_unpack]
  have HRL := hide hrl
  have HNil : Hid (∀ q, OB (w.drewN q) w.heap.size (.slice none 0 0) []) := fun q => World.ownsRow_nil _ _ _ _
  clear h1 h2 h3
  by_cases hn : n < 0
  · have he : rrawE row p n = 1 := if_pos hn
    have HE : Hid (rrawE row p n = 1 ∧ rrawL row p n = [] ∧ rrawP row p n = p) := ⟨he, if_neg (by rw [he]; omega), if_neg (by rw [he]; omega)⟩
    clear c0 c1 cf hrl he
    go_enter Tryz.func61, Tryz.ntmps61
    go_wp2
    go_ret2
    rw [HE.out.1, HE.out.2.1, HE.out.2.2]
    exact ⟨_, _, rfl, HNil.out 0, H.out, Fr.refl _ _⟩
  by_cases hp : p % 8 ≠ 0
  · have he : rrawE row p n = 31 := by unfold rrawE; rw [if_neg hn, if_pos hp]
    have HE : Hid (rrawE row p n = 31 ∧ rrawL row p n = [] ∧ rrawP row p n = p) := ⟨he, if_neg (by rw [he]; omega), if_neg (by rw [he]; omega)⟩
    have hp' : (0 : Int) < (p : Int) % 8 := by omega
    clear c0 c1 cf hrl he
    go_enter Tryz.func61, Tryz.ntmps61
    go_wp2
    go_ret2
    rw [HE.out.1, HE.out.2.1, HE.out.2.2]
    exact ⟨_, _, rfl, HNil.out 0, H.out, Fr.refl _ _⟩
  have hp' : (p : Int) % 8 = 0 := by omega
  by_cases hl : n ≤ ((row.length : Int) - p) / 8
  case neg =>
    have he : rrawE row p n = 30 := by unfold rrawE; rw [if_neg hn, if_neg hp, if_neg hl]
    have HE : Hid (rrawE row p n = 30 ∧ rrawL row p n = [] ∧ rrawP row p n = p) := ⟨he, if_neg (by rw [he]; omega), if_neg (by rw [he]; omega)⟩
    have hl' : ((row.length : Int) - p) / 8 < n := by omega
    clear c0 c1 cf hrl he hl
    go_enter Tryz.func61, Tryz.ntmps61
    go_wp2_with fail
    refine (rdleft_any H.out).mono ?_
    rintro e w1 ⟨rfl, q, rfl⟩
    go_wp2
    go_ret2
    rw [HE.out.1, HE.out.2.1, HE.out.2.2]
    exact ⟨_, _, rfl, HNil.out q, H.out.drewN _, (Fr.refl _ _).drewN _⟩
  case pos =>
    have he : rrawE row p n = 0 := by unfold rrawE; rw [if_neg hn, if_neg hp, if_pos hl]
    obtain ⟨m, rfl⟩ : ∃ m : Nat, n = m := ⟨n.toNat, by omega⟩
    obtain ⟨F, HF⟩ : ∃ F : Nat, Hid (F = p / 8) := ⟨_, rfl⟩
    have hF : ((p : Int) / 8) = (F : Int) := by rw [HF.out]; omega
    have hpF : 8 * F = p := by rw [HF.out]; omega
    have hFm : F + m ≤ d.length := by omega
    obtain ⟨l, HLl⟩ : ∃ l, Hid (l = (d.drop F).take m) := ⟨_, rfl⟩
    have hll : l.length = m := by rw [HLl.out, List.length_take, List.length_drop]; omega
    have HE : Hid (rrawE row p m = 0 ∧ rrawL row p m = l ∧ rrawP row p m = p + 8 * m) := by
      refine ⟨he, ?_, if_pos he⟩
      unfold rrawL
      rw [if_pos he, HU.out, ← hpF, Int.toNat_natCast, ← unpack_drop, ← unpack_take, ← HLl.out, pack_unpack]
      rw [HLl.out]; exact byt_take (byt_drop HBy.out _) _
    have HM : Hid (∀ q, Rp ((w.drewN q).setCell ⟨g, 1, none⟩ (.int .i64 ((p : Int) + 8 * m))) K g row (p + 8 * m) ∧ Fr K K w ((w.drewN q).setCell ⟨g, 1, none⟩ (.int .i64 ((p : Int) + 8 * m)))) := fun q => by
      obtain ⟨a1, a2⟩ := (H.out.drewN q).move (p + 8 * m) ((p : Int) + 8 * m) (by omega) (by omega)
      exact ⟨a1, ((Fr.refl _ _).drewN q).trans a2⟩
    obtain ⟨a, c, hv⟩ := HW.out.o.shape
    subst hv
    obtain ⟨_, _, hve, hcc, hcm, _⟩ := HW.out.o.sb
    simp only [Value.slice.injEq] at hve
    obtain ⟨-, -, rfl⟩ := hve
    unfold maxLen at hcm
    have c0' : ∀ q x, ((w.drewN q).setCell ⟨g, 1, none⟩ x).cell? ⟨g, 0, none⟩ = some (.slice a d.length c) := fun q x => by
      have := ((HW.out.drewN q).set 0 x).1.cell 0
      exact this
    have hl' : ¬ ((row.length : Int) - p) / 8 < m := by omega
    have HPL := hide hpF
    have HLL := hide hll
    clear hrl he hl hn hp hpF hll
    have HFIN : Hid (∀ (q : Nat) (w2 : World) (v' : Value), OB w2 w.heap.size v' l → ((w.drewN q).setCell ⟨g, 1, none⟩ (.int .i64 ((p : Int) + 8 * m))).grownBy w2 none → ∃ a c, v' = .slice a l.length c ∧ OB w2 w.heap.size (.slice a l.length c) l ∧ Rp w2 K g row (p + 8 * m) ∧ Fr K K w w2) := by
      intro q w2 v' ho hg
      obtain ⟨a', c', rfl⟩ := ho.shape
      obtain ⟨m1, m2⟩ := HM.out q
      have hs := m1.sup
      refine ⟨a', c', rfl, ho, m1.far hg.size (fun k hk => hg.block k (hs k hk) (by simp)), m2.trans ⟨hg.os, hg.tape, hg.output, hg.size, fun k hk _ => hg.block k hk (by simp), fun _ _ => rfl⟩⟩
    by_cases hedge : c = F
    · obtain rfl : m = 0 := by omega
      have HSRC : Hid (∀ W : World, SB W (.slice a 0 0) l) := fun W => by
        obtain rfl : l = [] := List.eq_nil_of_length_eq_zero HLL.out
        exact ⟨a, 0, rfl, Nat.le_refl _, Nat.zero_le _, fun _ => rfl, fun x _ i hi => absurd hi (Nat.not_lt_zero _)⟩
      have hl0 : l = [] := List.eq_nil_of_length_eq_zero HLL.out
      have HL0 := hide hl0
      subst hedge
      clear hl0
      go_enter Tryz.func61, Tryz.ntmps61
      go_wp2_with fail
      refine (rdleft_any H.out).mono ?_
      rintro e w1 ⟨rfl, q, rfl⟩
      have k0 := c0 q
      have k1 := c1 q
      have kf := cf q
      have k2 := c0' q
      clear c0 c1 cf c0'
      go_wp2_with (at_builtin; refine wpList_app rfl _ _ 22 rfl w.heap.size _ (.slice a 0 0) [] l rfl (World.ownsRow_nil _ _ _ _) rfl (HSRC.out _).src (by rw [HL0.out]; simp) (by simp) ?_)
      intro v' w2 ho hgr
      have HX := hide (HFIN.out q w2 v' ho (by simpa [Value.ownBlock] using hgr.by))
      obtain ⟨a', c', rfl⟩ := ho.shape
      clear ho hgr
      go_wp2
      go_ret2
      rw [HE.out.1, HE.out.2.1, HE.out.2.2]
      obtain ⟨a2, c2, x1, x2⟩ := HX.out
      exact ⟨a2, c2, by (try simp only [List.nil_append] at x1); rw [← x1]; rfl, x2⟩
    · have hsome : ∃ b, a = some ⟨b, 0, none⟩ := by
        rcases HW.out.o.2 with ⟨e, h0⟩ | ⟨gb, c', cur, e, _⟩
        · simp only [Value.slice.injEq] at e
          have : c = 0 := e.2.2
          omega
        · simp only [Value.slice.injEq] at e
          exact ⟨gb, e.1⟩
      obtain ⟨b, rfl⟩ := hsome
      have HSRC : Hid (∀ q x, SB ((w.drewN q).setCell ⟨g, 1, none⟩ x) (.slice (some ⟨b, F, none⟩) (F + m - F) (c - F)) l) := fun q x => by
        have hw := ((HW.out.drewN q).set 0 x).1
        obtain ⟨e1, e2⟩ := piece_cells hw.o HLl.out hFm
        refine ⟨some ⟨b, F, none⟩, c - F, by rw [e1, Nat.add_sub_cancel_left], by rw [e1]; omega, by unfold maxLen; omega, (fun h => by cases h), fun y hy i hi => ?_⟩
        cases hy
        rw [Addr.add_lit]
        exact e2 i hi
      have HLB : Hid (([] : List Int).length + l.length ≤ 140737488355328) := by show _ ≤ _; rw [HLL.out]; simp; omega
      go_enter Tryz.func61, Tryz.ntmps61
      go_wp2_with fail
      refine (rdleft_any H.out).mono ?_
      rintro e w1 ⟨rfl, q, rfl⟩
      have k0 := c0 q
      have k1 := c1 q
      have kf := cf q
      have k2 := c0' q
      clear c0 c1 cf c0'
      go_wp2_with (at_builtin; refine wpList_app rfl _ _ 22 rfl w.heap.size _ (.slice (some ⟨b, F, none⟩) (F + m - F) (c - F)) [] l rfl (World.ownsRow_nil _ _ _ _) rfl (HSRC.out _ _).src HLB.out (by simp) ?_)
      intro v' w2 ho hgr
      have HX := hide (HFIN.out q w2 v' ho (by simpa [Value.ownBlock] using hgr.by))
      obtain ⟨a', c', rfl⟩ := ho.shape
      clear ho hgr
      go_wp2
      go_ret2
      rw [HE.out.1, HE.out.2.1, HE.out.2.2]
      obtain ⟨a2, c2, x1, x2⟩ := HX.out
      exact ⟨a2, c2, by (try simp only [List.nil_append] at x1); rw [← x1]; rfl, x2⟩
end Go.Proofs.YtmjdpfigkojolaaGreatDoor

namespace Go.Proofs.YtmjdpfigkojolaaGreatDoor
open Go.RowKit Go.Maps
set_option maxRecDepth 20000

end Go.Proofs.YtmjdpfigkojolaaGreatDoor

namespace Go.Proofs.YtmjdpfigkojolaaGreatDoor
open Go.RowKit Go.Maps
set_option maxRecDepth 20000

end Go.Proofs.YtmjdpfigkojolaaGreatDoor

namespace Go.Proofs.YtmjdpfigkojolaaGreatDoor
open Go.RowKit Go.Maps
set_option maxRecDepth 20000

structure Thing where
  P : World → (Nat → Nat) → Prop
  far : ∀ {w w' : World} {K : Nat → Nat}, P w K → w.heap.size ≤ w'.heap.size → (∀ k, K k ≠ 0 → w'.heap[k]? = w.heap[k]?) → P w' K
  sup : ∀ {w : World} {K : Nat → Nat}, P w K → ∀ k, K k ≠ 0 → k < w.heap.size

def tr (g : Nat) (row : List Int) (p : Nat) : Thing := ⟨fun w K => Rp w K g row p, fun h a b => h.far a b, fun h => h.sup⟩

def tl (v : Value) (l : List Int) : Thing :=
  ⟨fun w K => OB w 0 v l ∧ (∀ k, v.ownBlock = some k → K k ≠ 0) ∧ ∀ k, K k ≠ 0 → k < w.heap.size,
   fun h a b => ⟨h.1.move fun k hk => b k (h.2.1 k hk), h.2.1, fun k hk => Nat.lt_of_lt_of_le (h.2.2 k hk) a⟩, fun h => h.2.2⟩

def tb (g : Nat) (o : Obj) : Thing :=
  ⟨fun w K => w.heap[g]? = some o ∧ K g ≠ 0 ∧ ∀ k, K k ≠ 0 → k < w.heap.size,
   fun h a b => ⟨(b g h.2.1).trans h.1, h.2.1, fun k hk => Nat.lt_of_lt_of_le (h.2.2 k hk) a⟩, fun h => h.2.2⟩

structure Herd (W w : World) (xs : List ((Nat → Nat) × Thing)) : Prop where
  bel : Below W.heap.size W w
  rep : ∀ (i : Nat) (d : (Nat → Nat) × Thing), xs[i]? = some d → d.2.P w d.1
  up : ∀ (i : Nat) (d : (Nat → Nat) × Thing), xs[i]? = some d → ∀ k, d.1 k ≠ 0 → W.heap.size ≤ k
  sep : ∀ (i j : Nat) (d e : (Nat → Nat) × Thing), xs[i]? = some d → xs[j]? = some e → i ≠ j → ∀ k, d.1 k ≠ 0 → e.1 k = 0

theorem Thing.zero {x : Thing} {w : World} {K : Nat → Nat} (h : x.P w K) {k : Nat} (hk : w.heap.size ≤ k) : K k = 0 := by
  by_cases e : K k = 0
  · exact e
  · have := x.sup h k e; omega

theorem get_set {α : Type} {l : List α} {x y : α} {i j : Nat} (h : (l.set j x)[i]? = some y) : (i ≠ j ∧ l[i]? = some y) ∨ (i = j ∧ y = x) := by
  by_cases e : j = i
  · subst e
    rw [List.getElem?_set_self'] at h
    obtain ⟨u, hu, e⟩ := Option.map_eq_some_iff.1 h
    exact .inr ⟨rfl, e.symm⟩
  · rw [List.getElem?_set_ne e] at h
    exact .inl ⟨fun e2 => e e2.symm, h⟩

theorem Herd.nil (W : World) : Herd W W [] := ⟨Below.refl _ _, (fun i d hd => by simp at hd), (fun i d hd => by simp at hd), (fun i j d e hd => by simp at hd)⟩

theorem Herd.below {W w w' : World} {xs : List ((Nat → Nat) × Thing)} (h : Herd W w xs) (hb : Below w.heap.size w w') : Herd W w' xs :=
  ⟨h.bel.trans (hb.mono h.bel.size), fun i d hd => d.2.far (h.rep i d hd) hb.size fun k hk => hb.block k (d.2.sup (h.rep i d hd) k hk), h.up, h.sep⟩

theorem Herd.drewN {W w : World} {xs : List ((Nat → Nat) × Thing)} (h : Herd W w xs) (n : Nat) : Herd W (w.drewN n) xs := h.below (below_drewN (Below.refl _ _) n)

theorem Herd.op {W w w' : World} {xs : List ((Nat → Nat) × Thing)} (h : Herd W w xs) (n : Nat) {K K' : Nat → Nat} {x x' : Thing} (hn : xs[n]? = some (K, x)) (hr : x'.P w' K') (hF : Fr K K' w w') : Herd W w' (xs.set n (K', x')) := by
  have hs := h.bel.size
  have hup := h.up n _ hn
  refine ⟨h.bel.trans (hF.below hup hs), fun i d hd => ?_, fun i d hd k hk => ?_, fun i j d e hd he hne k hk => ?_⟩
  · rcases get_set hd with ⟨hne, hd⟩ | ⟨_, rfl⟩
    · exact d.2.far (h.rep i d hd) hF.size fun k hk => hF.block k (d.2.sup (h.rep i d hd) k hk) (h.sep i n d _ hd hn hne k hk)
    · exact hr
  · rcases get_set hd with ⟨hne, hd⟩ | ⟨_, rfl⟩
    · exact h.up i d hd k hk
    · exact hF.up hup hs k hk
  · rcases get_set hd with ⟨hn1, hd⟩ | ⟨e1, rfl⟩
    · rcases get_set he with ⟨hn2, he⟩ | ⟨e2, rfl⟩
      · exact h.sep i j d e hd he hne k hk
      · exact (hF.role k (d.2.sup (h.rep i d hd) k hk)).trans (h.sep i n d _ hd hn hn1 k hk)
    · rcases get_set he with ⟨hn2, he⟩ | ⟨e2, rfl⟩
      · by_cases hl : k < w.heap.size
        · exact h.sep n j _ e hn he (fun e3 => hn2 e3.symm) k (fun e0 => hk ((hF.role k hl).trans e0))
        · exact Thing.zero (h.rep j e he) (by omega)
      · omega

theorem get_snoc {α : Type} {l : List α} {x y : α} {i : Nat} (h : (l ++ [x])[i]? = some y) : (l[i]? = some y) ∨ (i = l.length ∧ y = x) := by
  by_cases hi : i < l.length
  · rw [List.getElem?_append_left hi] at h
    exact .inl h
  · rw [List.getElem?_append_right (by omega)] at h
    have := (List.getElem?_eq_some_iff.1 h).1
    simp at this
    have e : i = l.length := by omega
    subst e
    simp at h
    exact .inr ⟨rfl, h.symm⟩

theorem Herd.push {W w w' : World} {xs : List ((Nat → Nat) × Thing)} (h : Herd W w xs) (hb : Below w.heap.size w w') {K : Nat → Nat} {x : Thing} (hr : x.P w' K) (hu : ∀ k, K k ≠ 0 → w.heap.size ≤ k) : Herd W w' (xs ++ [(K, x)]) := by
  have h' := h.below hb
  have hs := h.bel.size
  refine ⟨h'.bel, fun i d hd => ?_, fun i d hd k hk => ?_, fun i j d e hd he hne k hk => ?_⟩
  · rcases get_snoc hd with hd | ⟨_, rfl⟩
    · exact h'.rep i d hd
    · exact hr
  · rcases get_snoc hd with hd | ⟨_, rfl⟩
    · exact h.up i d hd k hk
    · have := hu k hk; omega
  · rcases get_snoc hd with hd | ⟨e1, rfl⟩
    · rcases get_snoc he with he | ⟨e2, rfl⟩
      · exact h.sep i j d e hd he hne k hk
      · by_cases e0 : K k = 0
        · exact e0
        · exact absurd (Thing.zero (h.rep i d hd) (hu k e0)) hk
    · rcases get_snoc he with he | ⟨e2, rfl⟩
      · exact Thing.zero (h.rep j e he) (hu k hk)
      · omega

theorem Herd.sb {W w : World} {xs : List ((Nat → Nat) × Thing)} (H : Herd W w xs) (i : Nat) {K : Nat → Nat} {v : Value} {l : List Int} (hi : xs[i]? = some (K, tl v l)) : SB w v l := by
  have h : (tl v l).P w K := H.rep i _ hi
  exact h.1.sb

theorem hnewR {W w : World} {xs : List ((Nat → Nat) × Thing)} (H : Herd W w xs) (u : Value) (l : List Int) (h : SB w u l) (hB : Byt l) (hl : l.length ≤ 33554432) :
    Calls Tryz.prog 38 #[u] w fun e w' => ∃ g K, e = .returned (.pointer (some ⟨g, 0, none⟩)) ∧ Herd W w' (xs ++ [(K, tr g (unpack l) 0)]) := by
  refine (newReader_any u l w h hB hl).mono ?_
  rintro e w1 ⟨g, K, rfl, hR, hn, hb⟩
  exact ⟨g, K, rfl, H.push hb hR hn⟩

theorem htake {W w : World} {xs : List ((Nat → Nat) × Thing)} (H : Herd W w xs) (i : Nat) {K : Nat → Nat} {g : Nat} {row : List Int} {p : Nat} (hi : xs[i]? = some (K, tr g row p)) (n : Int) :
    Calls Tryz.prog 58 #[.pointer (some ⟨g, 0, none⟩), .int .i64 n] w fun e w' => e = .returned (.tuple #[.int .u32 (takeV row p n), .int .i64 (takeE row p n)]) ∧ Herd W w' (xs.set i (K, tr g row (takeP row p n))) := by
  have hw : Rp w K g row p := H.rep i _ hi
  refine (rdtake_any hw n).mono ?_
  rintro e w1 ⟨rfl, h1, h2⟩
  exact ⟨rfl, H.op i hi (x' := tr g row (takeP row p n)) h1 h2⟩

theorem hskip {W w : World} {xs : List ((Nat → Nat) × Thing)} (H : Herd W w xs) (i : Nat) {K : Nat → Nat} {g : Nat} {row : List Int} {p : Nat} (hi : xs[i]? = some (K, tr g row p)) (n : Int) :
    Calls Tryz.prog 78 #[.pointer (some ⟨g, 0, none⟩), .int .i64 n] w fun e w' => e = .returned (.int .i64 (skipE row p n)) ∧ Herd W w' (xs.set i (K, tr g row (skipP row p n))) := by
  have hw : Rp w K g row p := H.rep i _ hi
  refine (rdskip_any hw n).mono ?_
  rintro e w1 ⟨rfl, h1, h2⟩
  exact ⟨rfl, H.op i hi (x' := tr g row (skipP row p n)) h1 h2⟩

theorem hralign {W w : World} {xs : List ((Nat → Nat) × Thing)} (H : Herd W w xs) (i : Nat) {K : Nat → Nat} {g : Nat} {row : List Int} {p : Nat} (hi : xs[i]? = some (K, tr g row p)) :
    Calls Tryz.prog 59 #[.pointer (some ⟨g, 0, none⟩)] w fun e w' => e = .returned (.tuple #[]) ∧ Herd W w' (xs.set i (K, tr g row (algn p))) := by
  have hw : Rp w K g row p := H.rep i _ hi
  refine (rdalign_any hw).mono ?_
  rintro e w1 ⟨rfl, h1, h2⟩
  exact ⟨rfl, H.op i hi (x' := tr g row (algn p)) h1 h2⟩

theorem hat {W w : World} {xs : List ((Nat → Nat) × Thing)} (H : Herd W w xs) (i : Nat) {K : Nat → Nat} {g : Nat} {row : List Int} {p : Nat} (hi : xs[i]? = some (K, tr g row p)) :
    Calls Tryz.prog 39 #[.pointer (some ⟨g, 0, none⟩)] w fun e w' => e = .returned (.int .i64 p) ∧ Herd W w' xs := by
  have hw : Rp w K g row p := H.rep i _ hi
  refine (rdat_any hw).mono ?_
  rintro e w1 ⟨rfl, rfl⟩
  exact ⟨rfl, H⟩

theorem Herd.one {W w w' : World} {xs : List ((Nat → Nat) × Thing)} (h : Herd W w xs) (hb : Below w.heap.size w w') {K : Nat → Nat} {x : Thing} (hr : x.P w' K) (hu : ∀ k, K k ≠ 0 → w.heap.size ≤ k) : Herd W w' (xs ++ [(K, x)]) := h.push hb hr hu

theorem hrraw {W w : World} {xs : List ((Nat → Nat) × Thing)} (H : Herd W w xs) (i : Nat) {K : Nat → Nat} {g : Nat} {row : List Int} {p : Nat} (hi : xs[i]? = some (K, tr g row p)) (n : Int) :
    Calls Tryz.prog 61 #[.pointer (some ⟨g, 0, none⟩), .int .i64 n] w fun e w' => ∃ a c K', e = .returned (.tuple #[.slice a (rrawL row p n).length c, .int .i64 (rrawE row p n)]) ∧ Herd W w' (xs.set i (K, tr g row (rrawP row p n)) ++ [(K', tl (.slice a (rrawL row p n).length c) (rrawL row p n))]) := by
  have hw : Rp w K g row p := H.rep i _ hi
  refine (rdraw_any hw n).mono ?_
  rintro e w1 ⟨a, c, rfl, h0, h1, h2⟩
  have H1 := H.op i hi (x' := tr g row (rrawP row p n)) h1 h2
  refine ⟨a, c, fun k => if (Value.slice a (rrawL row p n).length c).ownBlock = some k then 1 else 0, rfl, H1.bel, fun j d hd => ?_, fun j d hd k hk => ?_, fun j j' d e hd he hne k hk => ?_⟩
  · rcases get_snoc hd with hd | ⟨_, rfl⟩
    · exact H1.rep j d hd
    · refine ⟨h0.base (Nat.zero_le _), fun k hk => by simp [hk], fun k hk => ?_⟩
      by_cases e : (Value.slice a (rrawL row p n).length c).ownBlock = some k
      · exact (h0.lt k e).2
      · simp [e] at hk
  · rcases get_snoc hd with hd | ⟨_, rfl⟩
    · exact H1.up j d hd k hk
    · by_cases e : (Value.slice a (rrawL row p n).length c).ownBlock = some k
      · have := (h0.lt k e).1; have := H.bel.size; omega
      · simp [e] at hk
  · have old : ∀ j' (e' : (Nat → Nat) × Thing), (xs.set i (K, tr g row (rrawP row p n)))[j']? = some e' → ∀ k, e'.1 k ≠ 0 → k < w.heap.size := fun j' e' he' k hk => by
      rcases get_set he' with ⟨_, he2⟩ | ⟨_, rfl⟩
      · exact e'.2.sup (H.rep j' e' he2) k hk
      · exact hw.sup k hk
    rcases get_snoc hd with hd | ⟨e1, rfl⟩
    · rcases get_snoc he with he | ⟨e2, rfl⟩
      · exact H1.sep j j' d e hd he hne k hk
      · by_cases e0 : (Value.slice a (rrawL row p n).length c).ownBlock = some k
        · have := (h0.lt k e0).1; have := old j d hd k hk; omega
        · simp [e0]
    · rcases get_snoc he with he | ⟨e2, rfl⟩
      · by_cases e0 : (Value.slice a (rrawL row p n).length c).ownBlock = some k
        · by_cases ez : e.1 k = 0
          · exact ez
          · have := (h0.lt k e0).1; have := old j' e he k ez; omega
        · simp [e0] at hk
      · omega
end Go.Proofs.YtmjdpfigkojolaaGreatDoor

namespace Go.Proofs.YtmjdpfigkojolaaGreatDoor
open Go.RowKit Go.Maps
set_option maxRecDepth 20000

def td (g : Nat) (l : List Int) : Thing := ⟨fun w K => Dp w K g l, fun h a b => h.far a b, fun h => h.sup⟩

def rowAt (row : List Int) (p : Nat) : Nat := rowN (ahead row p 15)

noncomputable def nxE (l row : List Int) (p : Nat) : Int := if fdB l (rowAt row p) = true then (if p + ln l (fdS l (rowAt row p)) ≤ row.length then 0 else 54) else 55
noncomputable def nxS (l row : List Int) (p : Nat) : Nat := if nxE l row p = 0 then fdS l (rowAt row p) else 0
noncomputable def nxP (l row : List Int) (p : Nat) : Nat := if nxE l row p = 0 then p + ln l (fdS l (rowAt row p)) else p

theorem fd_has {l : List Int} (hl : Lens l) {R : Nat} (h : fdB l R = true) : Hit l R (fdS l R) := by
  have he : ∃ s, Hit l R s := by
    unfold fdB at h
    exact @of_decide_eq_true _ (Classical.propDecidable _) h
  obtain ⟨s, hs⟩ := he
  rw [(fd_hit hl hs).1]
  exact hs

set_option maxHeartbeats 1000000 in
theorem hnext {W w : World} {xs : List ((Nat → Nat) × Thing)} (H : Herd W w xs) (i j : Nat) {K Kr : Nat → Nat} {g r : Nat} {l row : List Int} {p : Nat} (hi : xs[i]? = some (K, td g l)) (hj : xs[j]? = some (Kr, tr r row p)) :
    Calls Tryz.prog 83 #[.pointer (some ⟨g, 0, none⟩), .pointer (some ⟨r, 0, none⟩)] w fun e w' => e = .returned (.tuple #[.int .i64 (nxS l row p), .int .i64 (nxE l row p)]) ∧ Herd W w' (xs.set j (Kr, tr r row (nxP l row p))) := by
  have hD : Dp w K g l := H.rep i _ hi
  have hR : Rp w Kr r row p := H.rep j _ hj
  have hl := (dcE_zero hD.ok).1
  have HL := hide hl
  have hle := hR.le
  have HH := hide H
  have HI := hide hi
  have HJ := hide hj
  have hab := ahead_bound hR.bit p 15
  have HE0 : Hid (nxE l row p = if fdB l (rowAt row p) = true then (if p + ln l (fdS l (rowAt row p)) ≤ row.length then 0 else 54) else 55) := rfl
  have hpk : peekV row p 15 = ahead row p 15 ∧ peekK row p 15 = min 15 ((row.length : Int) - p) := ⟨if_pos ⟨by omega, by omega⟩, if_pos ⟨by omega, by omega⟩⟩
  have HPK := hide hpk
  obtain ⟨v, HV⟩ : ∃ v, Hid (v = ahead row p 15) := ⟨_, rfl⟩
  have HRV : Hid (rowN v = rowAt row p) := by show _ = _; rw [HV.out]; rfl
  rw [← HV.out] at hab HPK
  obtain ⟨vl, vw, vs, sy, a1, a2, _⟩ := hD.d
  have c0 : ∀ q, (w.drewN q).cell? ⟨g, 0, none⟩ = some vl := fun q => by
    have : (w.drewN q).heap[g]? = some (.cells (dv vl vw vs (shf l) (en l)) 163 (0, 0)) := a1
    rw [cell_of_row _ _ _ _ _ _ this, dv_0]
  have HVL := hide a2
  clear hD hR hl H hi hj a1 a2 hpk
  have HLEAVE : Hid (∀ q, Herd W (w.drewN q) (xs.set j (Kr, tr r row p))) := fun q => by
    have e : xs.set j (Kr, tr r row p) = xs := by
      apply List.ext_getElem?
      intro n
      rw [List.getElem?_set]
      by_cases c : j = n
      · subst c
        rw [if_pos rfl, HJ.out, if_pos (List.getElem?_eq_some_iff.1 HJ.out).1]
      · rw [if_neg c]
    rw [e]
    exact HH.out.drewN q
  obtain ⟨R, HR⟩ : ∃ R, Hid (R = rowAt row p) := ⟨_, rfl⟩
  rw [← HR.out] at HRV HE0
  by_cases hb : fdB l R = true
  case neg =>
    have hb' : fdB l R = false := by simpa using hb
    have HE : Hid (nxE l row p = 55) := by show _ = _; rw [HE0.out, if_neg hb]
    have HSP : Hid (nxS l row p = 0 ∧ nxP l row p = p) := by
      have := HE.out
      exact ⟨if_neg (by rw [this]; decide), if_neg (by rw [this]; decide)⟩
    rw [HE.out, HSP.out.1, HSP.out.2]
    clear hb
    obtain ⟨q1, HQ1⟩ : ∃ q, Hid (q = min (15 : Int) ((row.length : Int) - p)) := ⟨_, rfl⟩
    rw [← HQ1.out] at HPK
    go_enter Tryz.func83, Tryz.ntmps83
    go_wp2_with fail
    refine (rdpeek_any (HH.out.rep j _ HJ.out : Rp w Kr r row p) 15).mono ?_
    rintro e w1 ⟨rfl, n1, rfl⟩
    rw [HPK.out.1, HPK.out.2]
    go_wp2_with fail
    refine (find_any ((HH.out.drewN n1).rep i _ HI.out : Dp (w.drewN n1) K g l) v hab.1 (by have := hab.2; omega)).mono ?_
    rintro e w2 ⟨rfl, n2, rfl⟩
    rw [HRV.out, hb']
    have HX := hide (HLEAVE.out (n1 + n2))
    rw [World.drewN_drewN]
    go_wp2
    go_ret2
    exact ⟨rfl, HX.out⟩
  have hit := fd_has HL.out hb
  obtain ⟨s, HSS⟩ : ∃ s, Hid (s = fdS l R) := ⟨_, rfl⟩
  rw [← HSS.out] at hit
  have hs : s < l.length := hit.1.1
  have hn := HL.out.ln s
  obtain ⟨n, HN⟩ : ∃ n, Hid (n = ln l s) := ⟨_, rfl⟩
  rw [← HN.out] at hn
  obtain ⟨bl, cl, hvl, _, _, hc1, hc2⟩ := HVL.out.form (by omega)
  have cl0 : ∀ q, (w.drewN q).cell? ⟨bl, s, none⟩ = some (.int .i64 n) := fun q => by
    have := HVL.out.get (b := bl) (by rw [hvl]; rfl) hs
    rw [hn.1] at this
    exact this
  subst hvl
  have h288 := HL.out.1
  have hn15 := hn.2
  have HNE : Hid (fdB l R = true) := hb
  clear hit hn hb
  rw [← HSS.out, ← HN.out] at HE0
  by_cases hfit : p + n ≤ row.length
  · have HE : Hid (nxE l row p = 0) := by show _ = _; rw [HE0.out, if_pos HNE.out, if_pos hfit]
    have HSP : Hid (nxS l row p = s ∧ nxP l row p = p + n) := by
      have := HE.out
      refine ⟨?_, ?_⟩
      · unfold nxS; rw [if_pos this, ← HR.out, ← HSS.out]
      · unfold nxP; rw [if_pos this, ← HR.out, ← HSS.out, ← HN.out]
    have hsk : skipE row p n = 0 ∧ skipP row p n = p + n := ⟨by unfold skipE; rw [if_neg (by omega), if_pos (by omega)], by unfold skipP; rw [if_neg (by omega), if_pos (by omega)]; rfl⟩
    have HSK := hide hsk
    rw [HE.out, HSP.out.1, HSP.out.2]
    obtain ⟨q1, HQ1⟩ : ∃ q, Hid (q = min (15 : Int) ((row.length : Int) - p)) := ⟨_, rfl⟩
    rw [← HQ1.out] at HPK
    have hq1 : ¬ q1 < (n : Int) := by rw [HQ1.out]; omega
    clear hsk hfit
    go_enter Tryz.func83, Tryz.ntmps83
    go_wp2_with fail
    refine (rdpeek_any (HH.out.rep j _ HJ.out : Rp w Kr r row p) 15).mono ?_
    rintro e w1 ⟨rfl, n1, rfl⟩
    rw [HPK.out.1, HPK.out.2]
    go_wp2_with fail
    refine (find_any ((HH.out.drewN n1).rep i _ HI.out : Dp (w.drewN n1) K g l) v hab.1 (by have := hab.2; omega)).mono ?_
    rintro e w2 ⟨rfl, n2, rfl⟩
    rw [HRV.out, HNE.out, ← HSS.out, World.drewN_drewN]
    have d0 := c0 (n1 + n2)
    have d1 := cl0 (n1 + n2)
    have hs' : (s : Int) < l.length := by omega
    clear c0 cl0
    go_wp2_with fail
    refine (hskip (HH.out.drewN (n1 + n2)) j HJ.out n).mono ?_
    rintro e w3 ⟨rfl, h3⟩
    rw [HSK.out.1]
    have HX : Hid (Herd W w3 (xs.set j (Kr, tr r row (p + n)))) := by rw [← HSK.out.2]; exact h3
    clear h3
    go_wp2
    go_ret2
    exact ⟨rfl, HX.out⟩
  · have HE : Hid (nxE l row p = 54) := by show _ = _; rw [HE0.out, if_pos HNE.out, if_neg hfit]
    have HSP : Hid (nxS l row p = 0 ∧ nxP l row p = p) := by
      have := HE.out
      exact ⟨if_neg (by rw [this]; decide), if_neg (by rw [this]; decide)⟩
    rw [HE.out, HSP.out.1, HSP.out.2]
    obtain ⟨q1, HQ1⟩ : ∃ q, Hid (q = min (15 : Int) ((row.length : Int) - p)) := ⟨_, rfl⟩
    rw [← HQ1.out] at HPK
    have hq1 : q1 < (n : Int) := by rw [HQ1.out]; omega
    clear hfit
    go_enter Tryz.func83, Tryz.ntmps83
    go_wp2_with fail
    refine (rdpeek_any (HH.out.rep j _ HJ.out : Rp w Kr r row p) 15).mono ?_
    rintro e w1 ⟨rfl, n1, rfl⟩
    rw [HPK.out.1, HPK.out.2]
    go_wp2_with fail
    refine (find_any ((HH.out.drewN n1).rep i _ HI.out : Dp (w.drewN n1) K g l) v hab.1 (by have := hab.2; omega)).mono ?_
    rintro e w2 ⟨rfl, n2, rfl⟩
    rw [HRV.out, HNE.out, ← HSS.out, World.drewN_drewN]
    have d0 := c0 (n1 + n2)
    have d1 := cl0 (n1 + n2)
    have hs' : (s : Int) < l.length := by omega
    have HX := hide (HLEAVE.out (n1 + n2))
    clear c0 cl0
    go_wp2
    go_ret2
    exact ⟨rfl, HX.out⟩

theorem hdecode {W w : World} {xs : List ((Nat → Nat) × Thing)} (H : Herd W w xs) (v : Value) (l : List Int) (h : SI w v l) :
    Calls Tryz.prog 86 #[v] w fun e w' => (dcE l ≠ 0 ∧ e = .returned (.tuple #[.pointer none, .int .i64 (dcE l)]) ∧ Herd W w' xs) ∨ (dcE l = 0 ∧ ∃ g K, e = .returned (.tuple #[.pointer (some ⟨g, 0, none⟩), .int .i64 0]) ∧ Herd W w' (xs ++ [(K, td g l)])) := by
  refine (newDecoder_any v l w h).mono ?_
  rintro e w1 ⟨hb, h | ⟨h0, g, K, rfl, hd, hk⟩⟩
  · exact .inl ⟨h.1, h.2, H.below hb⟩
  · exact .inr ⟨h0, g, K, rfl, H.push hb hd hk⟩
end Go.Proofs.YtmjdpfigkojolaaGreatDoor

