import Derived.Test.YtiabhmdefaabgabDoorG3w
import Derived.Test.YtiabhmdefaabgabDoorG3a
namespace Go.Proofs.YtiabhmdefaabgabDoor
open Go.RowKit Go.Maps
set_option maxRecDepth 20000

/-- The program's reader: its row of bits and its place. -/
def Rp (w : World) (K : Nat → Nat) (g : Nat) (row : List Int) (p : Nat) : Prop := ∃ v d, WV 90 [.int .i64 p] w K g v d ∧ row = unpack d ∧ Byt d ∧ p ≤ 8 * d.length ∧ d.length ≤ 33554432

theorem Rp.far {w w' : World} {K : Nat → Nat} {g : Nat} {row : List Int} {p : Nat} (h : Rp w K g row p) (hsz : w.heap.size ≤ w'.heap.size) (hb : ∀ k, K k ≠ 0 → w'.heap[k]? = w.heap[k]?) : Rp w' K g row p := by
  obtain ⟨v, d, h1, h2, h3, h4⟩ := h
  exact ⟨v, d, h1.far hsz hb, h2, h3, h4⟩

theorem Rp.drewN {w : World} {K : Nat → Nat} {g : Nat} {row : List Int} {p : Nat} (h : Rp w K g row p) (n : Nat) : Rp (w.drewN n) K g row p := h.far (Nat.le_refl _) (fun _ _ => rfl)

theorem Rp.sup {w : World} {K : Nat → Nat} {g : Nat} {row : List Int} {p : Nat} (h : Rp w K g row p) : ∀ k, K k ≠ 0 → k < w.heap.size := by
  obtain ⟨_, _, h, _⟩ := h
  exact h.sup

theorem Rp.bit {w : World} {K : Nat → Nat} {g : Nat} {row : List Int} {p : Nat} (h : Rp w K g row p) : Bit row := by
  obtain ⟨_, _, _, h, _⟩ := h
  rw [h]; exact bit_unpack _

theorem Rp.le {w : World} {K : Nat → Nat} {g : Nat} {row : List Int} {p : Nat} (h : Rp w K g row p) : p ≤ row.length ∧ row.length ≤ 268435456 ∧ row.length % 8 = 0 := by
  obtain ⟨_, _, _, h, _, h3, h4⟩ := h
  rw [h, length_unpack]; omega

/-- The place has moved. -/
theorem Rp.move {w : World} {K : Nat → Nat} {g : Nat} {row : List Int} {p : Nat} (h : Rp w K g row p) (q : Nat) (x : Int) (hx : x = q) (hq : q ≤ row.length) : Rp (w.setCell ⟨g, 1, none⟩ (.int .i64 x)) K g row q ∧ Fr K K w (w.setCell ⟨g, 1, none⟩ (.int .i64 x)) := by
  subst hx
  obtain ⟨v, d, h1, h2, h3, h4, h5⟩ := h
  obtain ⟨a1, a2⟩ := h1.set 0 (.int .i64 q)
  exact ⟨⟨v, d, a1, h2, h3, by rw [h2, length_unpack] at hq; exact hq, h5⟩, a2⟩

theorem rdat_any {w : World} {K : Nat → Nat} {g : Nat} {row : List Int} {p : Nat} (h : Rp w K g row p) :
    Calls Tryd.prog 23 #[.pointer (some ⟨g, 0, none⟩)] w fun e w' => e = .returned (.int .i64 p) ∧ w' = w := by
  obtain ⟨v, d, h1, -⟩ := h
  have c1 : w.cell? ⟨g, 1, none⟩ = some (.int .i64 p) := h1.cell 1
  clear h1
  go_enter Tryd.func23, Tryd.ntmps23
  go_wp2
  go_ret
  exact ⟨rfl, rfl⟩

theorem rdleft_any {w : World} {K : Nat → Nat} {g : Nat} {row : List Int} {p : Nat} (h : Rp w K g row p) :
    Calls Tryd.prog 58 #[.pointer (some ⟨g, 0, none⟩)] w fun e w' => e = .returned (.int .i64 ((row.length : Int) - p)) ∧ ∃ n, w' = w.drewN n := by
  obtain ⟨v, d, h1, h2, h3, h4, h5⟩ := h
  have c0 : w.cell? ⟨g, 0, none⟩ = some v := h1.cell 0
  have c1 : w.cell? ⟨g, 1, none⟩ = some (.int .i64 p) := h1.cell 1
  obtain ⟨a, c, rfl⟩ := h1.o.shape
  have HL : Hid (((row.length : Int) - p) = 8 * d.length - p) := by show _ = _; rw [h2, length_unpack]; omega
  rw [HL.out]
  clear h1 h2
  go_enter Tryd.func58, Tryd.ntmps58
  go_wp2
  go_quiet (fail)
  go_wp2
  go_ret
  exact ⟨rfl, _, rfl⟩

theorem pow256 (k : Nat) : (256 : Int) ^ k = 2 ^ (8 * k) := by
  rw [Int.pow_mul]
  rfl

theorem u64_mask {x : Int} {n : Nat} (h0 : 0 ≤ x) (h1 : x < 2 ^ 63) (hn : n ≤ 32) : bits .and .u64 x (2 ^ n - 1) = x % 2 ^ n :=
  bits_mask .u64 63 (by decide) (fun n a b => by rw [IntKind.wrap_u64]; omega) n (by omega) x h0 h1

/-- A reader just made. -/
def MadeR (w : World) (row : List Int) (e : Ending) (w' : World) : Prop := ∃ g K, e = .returned (.pointer (some ⟨g, 0, none⟩)) ∧ Rp w' K g row 0 ∧ (∀ k, K k ≠ 0 → w.heap.size ≤ k) ∧ Below w.heap.size w w'

theorem newReader_any (u : Value) (l : List Int) (w : World) (h : SB w u l) (hB : Byt l) (hl : l.length ≤ 33554432) :
    Calls Tryd.prog 21 #[u] w fun e w' => MadeR w (unpack l) e w' := by
  have H := hide h
  have HBy := hide hB
  obtain ⟨a, c, hu, _⟩ := h
  subst hu
  clear hB
  go_enter Tryd.func21, Tryd.ntmps21
  go_wp2_with fail
  refine (slicesClone_any _ l w H.out (by omega)).mono ?_
  rintro e w1 ⟨a1, c1, rfl, ho, hb⟩
  have HO := hide ho
  have HB := hide hb
  clear ho hb
  go_wp2
  go_ret
  have hsz := HB.out.size
  refine ⟨_, fun k => if k = w1.heap.size then 1 else if (Value.slice a1 l.length c1).ownBlock = some k then 2 else 0, rfl, ⟨.slice a1 l.length c1, l, ⟨heap_alloc_new _ _, by simp, ?_, fun k hk => ?_, fun k hk => ?_⟩, rfl, HBy.out, by omega, hl⟩, fun k hk => ?_, HB.out.trans ((Below.refl _ _).alloc hsz _)⟩
  · exact (HO.out.alloc _).base (Nat.zero_le _)
  · have := HO.out.lt k hk
    rw [if_neg (by omega), if_pos hk]
  · rw [size_alloc']
    by_cases e1 : k = w1.heap.size
    · omega
    · rw [if_neg e1] at hk
      by_cases e2 : (Value.slice a1 l.length c1).ownBlock = some k
      · have := HO.out.lt k e2; omega
      · rw [if_neg e2] at hk; omega
  · by_cases e1 : k = w1.heap.size
    · omega
    · simp only [if_neg e1] at hk
      by_cases e2 : (Value.slice a1 l.length c1).ownBlock = some k
      · exact (HO.out.lt k e2).1
      · rw [if_neg e2] at hk; omega

theorem newReader_no (u : Value) (l : List Int) (w : World) (h : SB w u l) (hl : ¬ l.length ≤ 33554432) :
    Calls Tryd.prog 21 #[u] w fun e w' => e = .returned (.pointer none) ∧ w' = w := by
  obtain ⟨a, c, hu, _⟩ := h
  subst hu
  go_enter Tryd.func21, Tryd.ntmps21
  go_wp2
  go_ret
  exact ⟨rfl, rfl⟩

theorem getD_piece (d : List Int) {F L k : Nat} (hk : k < L) : ((d.drop F).take L).getD k 0 = d.getD (F + k) 0 := by
  simp [List.getD, hk]

/-- The loop's slices are pieces of the bytes. -/
theorem piece_cells {w : World} {b c : Nat} {d l : List Int} {F L : Nat} (h : OB w 0 (.slice (some ⟨b, 0, none⟩) d.length c) d) (hl : l = (d.drop F).take L) (hb : F + L ≤ d.length) : l.length = L ∧ ∀ k, k < l.length → w.cell? ⟨b, F + k, none⟩ = some (.int .u8 (l.getD k 0)) := by
  have e : l.length = L := by rw [hl, List.length_take, List.length_drop]; omega
  refine ⟨e, fun k hk => ?_⟩
  rw [h.get rfl (i := F + k) (by omega), hl, getD_piece d (by omega)]

theorem ahead_any {w : World} {K : Nat → Nat} {g : Nat} {row : List Int} {p : Nat} (h : Rp w K g row p) (n : Nat) (hn : n ≤ 32) :
    Calls Tryd.prog 97 #[.pointer (some ⟨g, 0, none⟩), .int .i64 n] w fun e w' => e = .returned (.int .u32 (ahead row p n)) ∧ ∃ m, w' = w.drewN m := by
  have hAb := ahead_bound h.bit p n
  obtain ⟨v, d, h1, h2, h3, h4, h5⟩ := h
  have c0 : w.cell? ⟨g, 0, none⟩ = some v := h1.cell 0
  have c1 : w.cell? ⟨g, 1, none⟩ = some (.int .i64 p) := h1.cell 1
  have HO := hide h1.o
  obtain ⟨a, c, rfl⟩ := h1.o.shape
  have HBy := hide h3
  obtain ⟨_, _, hve, hcc, hcm, _⟩ := h1.o.sb
  simp only [Value.slice.injEq] at hve
  obtain ⟨-, -, rfl⟩ := hve
  unfold maxLen at hcm
  clear h1 h3
  obtain ⟨F, HF⟩ : ∃ F : Nat, Hid (F = p / 8) := ⟨_, rfl⟩
  obtain ⟨S, HSS⟩ : ∃ S : Nat, Hid (S = p % 8) := ⟨_, rfl⟩
  have hp8 : ((p : Int) / 8) = (F : Int) := by rw [HF.out]; omega
  have hps : ((p : Int) % 8) = (S : Int) := by rw [HSS.out]; omega
  have hpF1 : 8 * F ≤ p := by rw [HF.out]; omega
  have hpF2 : p < 8 * F + 8 := by rw [HF.out]; omega
  have hS8 : S < 8 := by rw [HSS.out]; omega
  by_cases hedge : c = F
  · have hdF : d.length = F := by omega
    have HZ : Hid (ahead row p n = 0) := by
      have := ahead_bytes HBy.out p n _ rfl h4
      rw [show min ((p + n + 7) / 8) d.length - p / 8 = 0 by omega] at this
      show _ = _
      rw [h2, ← this]
      simp [le]
    rw [HZ.out]
    have hp32 : (2 : Int) ^ n ≤ 2 ^ 32 := pow_le hn
    have hpn := pow_pos n
    have hwn : IntKind.u64.wrap ((2 : Int) ^ n) = 2 ^ n := by rw [IntKind.wrap_u64]; omega
    have hwn1 : IntKind.u64.wrap ((2 : Int) ^ n - 1) = 2 ^ n - 1 := by rw [IntKind.wrap_u64]; omega
    have hmask := u64_mask (x := 0) (n := n) (by omega) (by omega) hn
    have hmask' : bits .and .u64 0 (2 ^ n - 1) = 0 := by rw [hmask]; simp
    have hle : ¬ ((p : Int) + n + 7) / 8 < (d.length : Int) := by omega
    subst hedge
    have hdi : (d.length : Int) = c := by omega
    clear hp32 hpn hmask h2 hAb HZ hdF
    go_enter Tryd.func97, Tryd.ntmps97
    go_wp2
    go_quiet (fail)
    rename_i nq _
    have c0 : (w.drewN nq).cell? ⟨g, 0, none⟩ = some (.slice a d.length c) := c0
    have c1 : (w.drewN nq).cell? ⟨g, 1, none⟩ = some (.int .i64 p) := c1
    go_wp2
    all_goals
      refine wp_loop_rounds 1 ?_
      rw [rounds_succ]
      go_wp2
      go_quiet (fail)
      go_wp2
      go_ret
      refine ⟨?_, _, World.drewN_drewN _ _ _⟩
      first | rfl | (simp [hmask']; done) | trace_state
  have hsome : ∃ b, a = some ⟨b, 0, none⟩ := by
    rcases HO.out.2 with ⟨e, h0⟩ | ⟨gb, c', cur, e, _⟩
    · simp only [Value.slice.injEq] at e
      have : c = 0 := e.2.2
      omega
    · simp only [Value.slice.injEq] at e
      exact ⟨gb, e.1⟩
  obtain ⟨b, rfl⟩ := hsome
  by_cases hm : (p + n + 7) / 8 ≤ d.length
  · obtain ⟨q, HQ⟩ : ∃ q : Nat, Hid (q = (p + n + 7) / 8) := ⟨_, rfl⟩
    have hq : ((p : Int) + n + 7) / 8 = (q : Int) := by rw [HQ.out]; omega
    have hqd : q ≤ d.length := by rw [HQ.out]; exact hm
    have hq1 : F ≤ q := by rw [HQ.out]; omega
    have hq2 : q = (p + n + 7) / 8 := HQ.out
    have HA : Hid (le ((d.drop F).take (q - F)) / 2 ^ S % 2 ^ n = ahead row p n) := by show _ = _; rw [h2, HF.out, HSS.out]; exact ahead_bytes HBy.out p n _ (by rw [HF.out] at *; omega) h4
    have hL : q - F ≤ 5 := by omega
    obtain ⟨l, HLl⟩ : ∃ l, Hid (l = (d.drop F).take (q - F)) := ⟨_, rfl⟩
    obtain ⟨hll, hcl⟩ := piece_cells HO.out HLl.out (by omega)
    have HG := hide hcl
    have HBl : Hid (Byt l) := by rw [HLl.out]; exact byt_take (byt_drop HBy.out _) _
    rw [← HLl.out] at HA
    obtain ⟨L, HLL⟩ : ∃ L, Hid (L = q - F) := ⟨_, rfl⟩
    have hLL : q - F = L := HLL.out.symm
    have hll' : l.length = L := by rw [hll, hLL]
    have hL5 : L ≤ 5 := by omega
    have HLE := hide hll'
    clear hm hq2
    clear hcl hll hll' hL h2 hAb
    go_enter Tryd.func97, Tryd.ntmps97
    go_wp2
    go_quiet (fail)
    rename_i nq _
    have c0 : (w.drewN nq).cell? ⟨g, 0, none⟩ = some (.slice (some ⟨b, 0, none⟩) d.length c) := c0
    have c1 : (w.drewN nq).cell? ⟨g, 1, none⟩ = some (.int .i64 p) := c1
    go_wp2
    go_loopw [7, 37] (fun x i wr => ∃ k : Nat, k ≤ L ∧ i = .int .i64 k ∧ x = .int .u64 (le (l.take k)) ∧ wr = w.drewN nq) (fun _ i _ => L - (intOf i).toNat)
    case atStart => exact ⟨0, Nat.zero_le _, rfl, rfl, rfl⟩
    case round =>
      obtain ⟨k, hk, rfl, rfl, rfl⟩ := hrel
      have hb := le_bound (byt_take HBl.out k)
      rw [List.length_take, HLE.out, Nat.min_eq_left hk, pow256] at hb
      obtain ⟨V, HV⟩ : ∃ V, Hid (V = le (l.take k)) := ⟨_, rfl⟩
      rw [← HV.out] at hb ⊢
      obtain ⟨V0, V1⟩ := hb
      by_cases hlt : k < L
      · obtain ⟨y, hy, HY⟩ : ∃ y, (w.drewN nq).cell? ⟨b, F + k, none⟩ = some (.int .u8 y) ∧ Hid (y = l.getD k 0) := ⟨_, HG.out k (by rw [HLE.out]; exact hlt), rfl⟩
        have hy01 : 0 ≤ y ∧ y < 256 := by rw [HY.out]; exact HBl.out k
        obtain ⟨hy0, hy1⟩ := hy01
        obtain ⟨hor, hz0, hz1, _⟩ := u64_or (r := V) (x := y) (h := 8 * k) (n := 8) V0 V1 hy0 hy1 (by omega)
        have hw : IntKind.u64.wrap (y * 2 ^ (8 * k)) = y * 2 ^ (8 * k) := by rw [IntKind.wrap_u64]; omega
        have HT : Hid (le (l.take (k + 1)) = V + y * 2 ^ (8 * k)) := by
          show _ = _
          rw [le_take (by rw [HLE.out]; exact hlt), ← HV.out, ← HY.out, pow256, Int.mul_comm]
        have hlt' : (k : Int) < (L : Int) := by omega
        clear hz0 hz1 V1
        go_wp2
        go_roundw
        case rel => exact ⟨k + 1, by omega, by go_num, by rw [HT.out], by trivial⟩
        case measure => simp [intOf]; omega
      · have hkL : k = L := by omega
        have HVL : Hid (V = le l) := by show _ = _; rw [HV.out, List.take_of_length_le (by rw [HLE.out]; omega)]
        have hlt' : ¬ (k : Int) < (L : Int) := by omega
        have h40 : (2 : Int) ^ (8 * k) ≤ 2 ^ 40 := pow_le (by omega)
        have hvs0 : 0 ≤ V / 2 ^ S := Int.ediv_nonneg V0 (Int.le_of_lt (pow_pos S))
        have hvs1 : V / 2 ^ S ≤ V := Int.ediv_le_self _ V0
        have hmask := u64_mask (x := V / 2 ^ S) (n := n) hvs0 (by omega) hn
        have hp32 : (2 : Int) ^ n ≤ 2 ^ 32 := pow_le hn
        have hpn := pow_pos n
        have hwn : IntKind.u64.wrap ((2 : Int) ^ n) = 2 ^ n := by rw [IntKind.wrap_u64]; omega
        have hwn1 : IntKind.u64.wrap ((2 : Int) ^ n - 1) = 2 ^ n - 1 := by rw [IntKind.wrap_u64]; omega
        have hr0 : 0 ≤ V / 2 ^ S % 2 ^ n := Int.emod_nonneg _ (by omega)
        have hr1 : V / 2 ^ S % 2 ^ n < 2 ^ n := Int.emod_lt_of_pos _ hpn
        have hwr : IntKind.u32.wrap (V / 2 ^ S % 2 ^ n) = V / 2 ^ S % 2 ^ n := by rw [IntKind.wrap_u32]; omega
        have HAV : Hid (V / 2 ^ S % 2 ^ n = ahead row p n) := by show _ = _; rw [HVL.out]; exact HA.out
        have HWR := hide hwr
        have HMK := hide hmask
        clear h40 hvs1 hp32 hpn hr0 hr1 hmask hwr V1
        go_wp2
        go_quiet (fail)
        go_wp2
        go_ret
        refine ⟨?_, _, World.drewN_drewN _ _ _⟩
        show Ending.returned (Value.int .u32 (IntKind.u32.wrap (bits .and .u64 (V / 2 ^ S) (2 ^ n - 1)))) = _
        rw [HMK.out, HWR.out, HAV.out]
  · have hq : (d.length : Int) < ((p : Int) + n + 7) / 8 := by omega
    have hq1 : F ≤ d.length := by omega
    have HA : Hid (le ((d.drop F).take (d.length - F)) / 2 ^ S % 2 ^ n = ahead row p n) := by show _ = _; rw [h2, HF.out, HSS.out]; exact ahead_bytes HBy.out p n _ (by rw [HF.out] at *; omega) h4
    have hL : d.length - F ≤ 5 := by omega
    obtain ⟨l, HLl⟩ : ∃ l, Hid (l = (d.drop F).take (d.length - F)) := ⟨_, rfl⟩
    obtain ⟨hll, hcl⟩ := piece_cells HO.out HLl.out (by omega)
    have HG := hide hcl
    have HBl : Hid (Byt l) := by rw [HLl.out]; exact byt_take (byt_drop HBy.out _) _
    rw [← HLl.out] at HA
    obtain ⟨L, HLL⟩ : ∃ L, Hid (L = d.length - F) := ⟨_, rfl⟩
    have hLL : d.length - F = L := HLL.out.symm
    have hll' : l.length = L := by rw [hll, hLL]
    have hL5 : L ≤ 5 := by omega
    have HLE := hide hll'
    clear hm
    clear hcl hll hll' hL h2 hAb
    go_enter Tryd.func97, Tryd.ntmps97
    go_wp2
    go_quiet (fail)
    rename_i nq _
    have c0 : (w.drewN nq).cell? ⟨g, 0, none⟩ = some (.slice (some ⟨b, 0, none⟩) d.length c) := c0
    have c1 : (w.drewN nq).cell? ⟨g, 1, none⟩ = some (.int .i64 p) := c1
    go_wp2
    go_loopw [7, 37] (fun x i wr => ∃ k : Nat, k ≤ L ∧ i = .int .i64 k ∧ x = .int .u64 (le (l.take k)) ∧ wr = w.drewN nq) (fun _ i _ => L - (intOf i).toNat)
    case atStart => exact ⟨0, Nat.zero_le _, rfl, rfl, rfl⟩
    case round =>
      obtain ⟨k, hk, rfl, rfl, rfl⟩ := hrel
      have hb := le_bound (byt_take HBl.out k)
      rw [List.length_take, HLE.out, Nat.min_eq_left hk, pow256] at hb
      obtain ⟨V, HV⟩ : ∃ V, Hid (V = le (l.take k)) := ⟨_, rfl⟩
      rw [← HV.out] at hb ⊢
      obtain ⟨V0, V1⟩ := hb
      by_cases hlt : k < L
      · obtain ⟨y, hy, HY⟩ : ∃ y, (w.drewN nq).cell? ⟨b, F + k, none⟩ = some (.int .u8 y) ∧ Hid (y = l.getD k 0) := ⟨_, HG.out k (by rw [HLE.out]; exact hlt), rfl⟩
        have hy01 : 0 ≤ y ∧ y < 256 := by rw [HY.out]; exact HBl.out k
        obtain ⟨hy0, hy1⟩ := hy01
        obtain ⟨hor, hz0, hz1, _⟩ := u64_or (r := V) (x := y) (h := 8 * k) (n := 8) V0 V1 hy0 hy1 (by omega)
        have hw : IntKind.u64.wrap (y * 2 ^ (8 * k)) = y * 2 ^ (8 * k) := by rw [IntKind.wrap_u64]; omega
        have HT : Hid (le (l.take (k + 1)) = V + y * 2 ^ (8 * k)) := by
          show _ = _
          rw [le_take (by rw [HLE.out]; exact hlt), ← HV.out, ← HY.out, pow256, Int.mul_comm]
        have hlt' : (k : Int) < (L : Int) := by omega
        clear hz0 hz1 V1
        go_wp2
        go_roundw
        case rel => exact ⟨k + 1, by omega, by go_num, by rw [HT.out], by trivial⟩
        case measure => simp [intOf]; omega
      · have hkL : k = L := by omega
        have HVL : Hid (V = le l) := by show _ = _; rw [HV.out, List.take_of_length_le (by rw [HLE.out]; omega)]
        have hlt' : ¬ (k : Int) < (L : Int) := by omega
        have h40 : (2 : Int) ^ (8 * k) ≤ 2 ^ 40 := pow_le (by omega)
        have hvs0 : 0 ≤ V / 2 ^ S := Int.ediv_nonneg V0 (Int.le_of_lt (pow_pos S))
        have hvs1 : V / 2 ^ S ≤ V := Int.ediv_le_self _ V0
        have hmask := u64_mask (x := V / 2 ^ S) (n := n) hvs0 (by omega) hn
        have hp32 : (2 : Int) ^ n ≤ 2 ^ 32 := pow_le hn
        have hpn := pow_pos n
        have hwn : IntKind.u64.wrap ((2 : Int) ^ n) = 2 ^ n := by rw [IntKind.wrap_u64]; omega
        have hwn1 : IntKind.u64.wrap ((2 : Int) ^ n - 1) = 2 ^ n - 1 := by rw [IntKind.wrap_u64]; omega
        have hr0 : 0 ≤ V / 2 ^ S % 2 ^ n := Int.emod_nonneg _ (by omega)
        have hr1 : V / 2 ^ S % 2 ^ n < 2 ^ n := Int.emod_lt_of_pos _ hpn
        have hwr : IntKind.u32.wrap (V / 2 ^ S % 2 ^ n) = V / 2 ^ S % 2 ^ n := by rw [IntKind.wrap_u32]; omega
        have HAV : Hid (V / 2 ^ S % 2 ^ n = ahead row p n) := by show _ = _; rw [HVL.out]; exact HA.out
        have HWR := hide hwr
        have HMK := hide hmask
        clear h40 hvs1 hp32 hpn hr0 hr1 hmask hwr V1
        go_wp2
        go_quiet (fail)
        go_wp2
        go_ret
        refine ⟨?_, _, World.drewN_drewN _ _ _⟩
        show Ending.returned (Value.int .u32 (IntKind.u32.wrap (bits .and .u64 (V / 2 ^ S) (2 ^ n - 1)))) = _
        rw [HMK.out, HWR.out, HAV.out]

end Go.Proofs.YtiabhmdefaabgabDoor

namespace Go.Proofs.YtiabhmdefaabgabDoor
open Go.RowKit Go.Maps
set_option maxRecDepth 20000

def takeOk (row : List Int) (p : Nat) (n : Int) : Prop := Cnt n ∧ n ≤ (row.length : Int) - p
instance (row : List Int) (p : Nat) (n : Int) : Decidable (takeOk row p n) := by unfold takeOk; exact inferInstance
def takeE (row : List Int) (p : Nat) (n : Int) : Int := if Cnt n then (if n ≤ (row.length : Int) - p then 0 else 30) else 1
def takeV (row : List Int) (p : Nat) (n : Int) : Int := if takeOk row p n then ahead row p n.toNat else 0
def takeP (row : List Int) (p : Nat) (n : Int) : Nat := if takeOk row p n then p + n.toNat else p

theorem rdtake_any {w : World} {K : Nat → Nat} {g : Nat} {row : List Int} {p : Nat} (h : Rp w K g row p) (n : Int) :
    Calls Tryd.prog 72 #[.pointer (some ⟨g, 0, none⟩), .int .i64 n] w fun e w' => e = .returned (.tuple #[.int .u32 (takeV row p n), .int .i64 (takeE row p n)]) ∧ Rp w' K g row (takeP row p n) ∧ Fr K K w w' := by
  have H := hide h
  have hle := h.le
  obtain ⟨v, d, h1, -⟩ := h
  have c1 : ∀ q, (w.drewN q).cell? ⟨g, 1, none⟩ = some (.int .i64 p) := fun q => h1.cell 1
  have cf : ∀ q, (w.drewN q).frozen? ⟨g, 1, none⟩ = false := fun q => h1.free 1
  clear h1
  by_cases hc : Cnt n
  case neg =>
    have HE : Hid (takeE row p n = 1 ∧ takeV row p n = 0 ∧ takeP row p n = p) := ⟨if_neg hc, if_neg fun h => hc h.1, if_neg fun h => hc h.1⟩
    have HC : Hid (decide (Cnt n) = false) := decide_eq_false hc
    clear hc c1 cf
    go_enter Tryd.func72, Tryd.ntmps72
    go_wp2_with fail
    refine (countable_any _ _).mono ?_
    rintro e w' ⟨rfl, rfl⟩
    rw [HC.out]
    go_wp2
    go_ret2
    rw [HE.out.1, HE.out.2.1, HE.out.2.2]
    exact ⟨rfl, H.out, Fr.refl _ _⟩
  case pos =>
  have HC : Hid (decide (Cnt n) = true) := decide_eq_true hc
  by_cases hl : n ≤ (row.length : Int) - p
  case neg =>
    have HE : Hid (takeE row p n = 30 ∧ takeV row p n = 0 ∧ takeP row p n = p) := ⟨by show (if _ then _ else _) = _; rw [if_pos hc, if_neg hl], if_neg fun h => hl h.2, if_neg fun h => hl h.2⟩
    clear hc c1 cf
    go_enter Tryd.func72, Tryd.ntmps72
    go_wp2_with fail
    refine (countable_any _ _).mono ?_
    rintro e w' ⟨rfl, rfl⟩
    rw [HC.out]
    go_wp2_with fail
    refine (rdleft_any H.out).mono ?_
    rintro e w1 ⟨rfl, q, rfl⟩
    go_wp2
    go_ret2
    rw [HE.out.1, HE.out.2.1, HE.out.2.2]
    exact ⟨rfl, H.out.drewN _, (Fr.refl _ _).drewN _⟩
  case pos =>
    have HE : Hid (takeE row p n = 0 ∧ takeV row p n = ahead row p n.toNat ∧ takeP row p n = p + n.toNat) := ⟨by show (if _ then _ else _) = _; rw [if_pos hc, if_pos hl], if_pos ⟨hc, hl⟩, if_pos ⟨hc, hl⟩⟩
    obtain ⟨n0, n1⟩ := hc
    obtain ⟨m, rfl⟩ : ∃ m : Nat, n = m := ⟨n.toNat, by omega⟩
    have HM : Hid (∀ q, Rp ((w.drewN q).setCell ⟨g, 1, none⟩ (.int .i64 ((p : Int) + m))) K g row (p + m) ∧ Fr K K w ((w.drewN q).setCell ⟨g, 1, none⟩ (.int .i64 ((p : Int) + m)))) := fun q => by
      obtain ⟨a1, a2⟩ := (H.out.drewN q).move (p + m) ((p : Int) + m) (by omega) (by omega)
      exact ⟨a1, ((Fr.refl _ _).drewN q).trans a2⟩
    go_enter Tryd.func72, Tryd.ntmps72
    go_wp2_with fail
    refine (countable_any _ _).mono ?_
    rintro e w' ⟨rfl, rfl⟩
    rw [HC.out]
    go_wp2_with fail
    refine (rdleft_any H.out).mono ?_
    rintro e w1 ⟨rfl, q, rfl⟩
    go_wp2_with fail
    refine (ahead_any (H.out.drewN q) m (by omega)).mono ?_
    rintro e w1 ⟨rfl, q2, rfl⟩
    go_wp2
    go_ret2
    rw [HE.out.1, HE.out.2.1, HE.out.2.2]
    exact ⟨rfl, HM.out _⟩

def peekV (row : List Int) (p : Nat) (n : Int) : Int := if Cnt n then ahead row p n.toNat else 0
def peekK (row : List Int) (p : Nat) (n : Int) : Int := if Cnt n then min n ((row.length : Int) - p) else 0

theorem rdpeek_any {w : World} {K : Nat → Nat} {g : Nat} {row : List Int} {p : Nat} (h : Rp w K g row p) (n : Int) :
    Calls Tryd.prog 113 #[.pointer (some ⟨g, 0, none⟩), .int .i64 n] w fun e w' => e = .returned (.tuple #[.int .u32 (peekV row p n), .int .i64 (peekK row p n)]) ∧ ∃ q, w' = w.drewN q := by
  have H := hide h
  have hle := h.le
  clear h
  by_cases hc : Cnt n
  case neg =>
    have HE : Hid (peekV row p n = 0 ∧ peekK row p n = 0) := ⟨if_neg hc, if_neg hc⟩
    have HC : Hid (decide (Cnt n) = false) := decide_eq_false hc
    clear hc
    go_enter Tryd.func113, Tryd.ntmps113
    go_wp2_with fail
    refine (countable_any _ _).mono ?_
    rintro e w' ⟨rfl, rfl⟩
    rw [HC.out]
    go_wp2
    go_ret2
    rw [HE.out.1, HE.out.2]
    exact ⟨rfl, 0, rfl⟩
  case pos =>
    have HC : Hid (decide (Cnt n) = true) := decide_eq_true hc
    have HE : Hid (peekV row p n = ahead row p n.toNat ∧ peekK row p n = min n ((row.length : Int) - p)) := ⟨if_pos hc, if_pos hc⟩
    obtain ⟨n0, n1⟩ := hc
    obtain ⟨m, rfl⟩ : ∃ m : Nat, n = m := ⟨n.toNat, by omega⟩
    go_enter Tryd.func113, Tryd.ntmps113
    go_wp2_with fail
    refine (countable_any _ _).mono ?_
    rintro e w' ⟨rfl, rfl⟩
    rw [HC.out]
    go_wp2_with fail
    refine (ahead_any H.out m (by omega)).mono ?_
    rintro e w1 ⟨rfl, q2, rfl⟩
    go_wp2_with fail
    refine (rdleft_any (H.out.drewN q2)).mono ?_
    rintro e w1 ⟨rfl, q, rfl⟩
    go_wp2
    all_goals go_ret2
    all_goals rw [HE.out.1, HE.out.2]
    all_goals refine ⟨?_, _, rfl⟩
    all_goals first
      | (rw [show min (m : Int) ((row.length : Int) - p) = (m : Int) by omega]; rfl)
      | (rw [show min (m : Int) ((row.length : Int) - p) = (row.length : Int) - p by omega]; rfl)

def skipE (row : List Int) (p : Nat) (n : Int) : Int := if n < 0 then 1 else if n ≤ (row.length : Int) - p then 0 else 30
def skipP (row : List Int) (p : Nat) (n : Int) : Nat := if n < 0 then p else if n ≤ (row.length : Int) - p then p + n.toNat else p

theorem rdskip_any {w : World} {K : Nat → Nat} {g : Nat} {row : List Int} {p : Nat} (h : Rp w K g row p) (n : Int) :
    Calls Tryd.prog 27 #[.pointer (some ⟨g, 0, none⟩), .int .i64 n] w fun e w' => e = .returned (.int .i64 (skipE row p n)) ∧ Rp w' K g row (skipP row p n) ∧ Fr K K w w' := by
  have H := hide h
  have hle := h.le
  obtain ⟨v, d, h1, -⟩ := h
  have c1 : ∀ q, (w.drewN q).cell? ⟨g, 1, none⟩ = some (.int .i64 p) := fun q => h1.cell 1
  have cf : ∀ q, (w.drewN q).frozen? ⟨g, 1, none⟩ = false := fun q => h1.free 1
  clear h1
  by_cases hn : n < 0
  · have HE : Hid (skipE row p n = 1 ∧ skipP row p n = p) := ⟨if_pos hn, if_pos hn⟩
    clear c1 cf
    go_enter Tryd.func27, Tryd.ntmps27
    go_wp2
    go_ret
    rw [HE.out.1, HE.out.2]
    exact ⟨rfl, H.out, Fr.refl _ _⟩
  by_cases hl : n ≤ (row.length : Int) - p
  · have HE : Hid (skipE row p n = 0 ∧ skipP row p n = p + n.toNat) := ⟨by show (if _ then _ else _) = _; rw [if_neg hn, if_pos hl], by show (if _ then _ else _) = _; rw [if_neg hn, if_pos hl]⟩
    obtain ⟨m, rfl⟩ : ∃ m : Nat, n = m := ⟨n.toNat, by omega⟩
    have HM : Hid (∀ q, Rp ((w.drewN q).setCell ⟨g, 1, none⟩ (.int .i64 ((p : Int) + m))) K g row (p + m) ∧ Fr K K w ((w.drewN q).setCell ⟨g, 1, none⟩ (.int .i64 ((p : Int) + m)))) := fun q => by
      obtain ⟨a1, a2⟩ := (H.out.drewN q).move (p + m) ((p : Int) + m) (by omega) (by omega)
      exact ⟨a1, ((Fr.refl _ _).drewN q).trans a2⟩
    go_enter Tryd.func27, Tryd.ntmps27
    go_wp2_with fail
    refine (rdleft_any H.out).mono ?_
    rintro e w1 ⟨rfl, q, rfl⟩
    go_wp2
    go_ret
    rw [HE.out.1, HE.out.2]
    exact ⟨rfl, HM.out _⟩
  · have HE : Hid (skipE row p n = 30 ∧ skipP row p n = p) := ⟨by show (if _ then _ else _) = _; rw [if_neg hn, if_neg hl], by show (if _ then _ else _) = _; rw [if_neg hn, if_neg hl]⟩
    clear c1 cf
    go_enter Tryd.func27, Tryd.ntmps27
    go_wp2_with fail
    refine (rdleft_any H.out).mono ?_
    rintro e w1 ⟨rfl, q, rfl⟩
    go_wp2
    go_ret
    rw [HE.out.1, HE.out.2]
    exact ⟨rfl, H.out.drewN _, (Fr.refl _ _).drewN _⟩

def algn (p : Nat) : Nat := (p + 7) / 8 * 8

def rrawE (row : List Int) (p : Nat) (n : Int) : Int := if n < 0 then 1 else if p % 8 ≠ 0 then 31 else if n ≤ ((row.length : Int) - p) / 8 then 0 else 30
noncomputable def rrawL (row : List Int) (p : Nat) (n : Int) : List Int := if rrawE row p n = 0 then pack ((row.drop p).take (8 * n.toNat)) else []
def rrawP (row : List Int) (p : Nat) (n : Int) : Nat := if rrawE row p n = 0 then p + 8 * n.toNat else p

end Go.Proofs.YtiabhmdefaabgabDoor

namespace Go.Proofs.YtiabhmdefaabgabDoor
open Go.RowKit Go.Maps
set_option maxRecDepth 20000

theorem tmod_pos {k n : Int} (h : 0 ≤ k) : k.tmod n = k % n := Int.tmod_eq_emod_of_nonneg h

theorem tmod_neg {k n : Int} (hn : 0 < n) (h : k < 0) : (k.tmod n < 0 → k.tmod n + n = k % n) ∧ (¬ k.tmod n < 0 → k.tmod n = k % n) := by
  have h1 := Int.emod_nonneg k (show n ≠ 0 by omega)
  have h2 := Int.emod_lt_of_pos k hn
  have e : k.tmod n = -((-k) % n) := by
    have h5 := Int.tmod_eq_emod_of_nonneg (a := -k) (b := n) (by omega)
    have := Int.neg_tmod (-k) n
    rw [Int.neg_neg, h5] at this
    exact this
  have h3 := Int.emod_nonneg (-k) (show n ≠ 0 by omega)
  have h4 := Int.emod_lt_of_pos (-k) hn
  have d1 := Int.mul_ediv_add_emod k n
  have d2 := Int.mul_ediv_add_emod (-k) n
  have key : k % n = (if (-k) % n = 0 then 0 else n - (-k) % n) := by
    by_cases hz : (-k) % n = 0
    · rw [if_pos hz]
      have : k = n * (-((-k) / n)) := by rw [Int.mul_neg]; omega
      rw [this, Int.mul_emod_right]
    · rw [if_neg hz]
      have : k = (n - (-k) % n) + n * (-((-k) / n) - 1) := by rw [Int.mul_sub, Int.mul_neg]; omega
      conv => lhs; rw [this]
      rw [Int.add_mul_emod_self_left, Int.emod_eq_of_lt (by omega) (by omega)]
  rw [e, key]
  refine ⟨fun h => ?_, fun h => ?_⟩
  · rw [if_neg (by omega)]; omega
  · rw [if_pos (by omega)]; omega

end Go.Proofs.YtiabhmdefaabgabDoor

namespace Go.Proofs.YtiabhmdefaabgabDoor
open Go.RowKit Go.Maps
set_option maxRecDepth 20000

/-- Something in memory, with the blocks that are its own. -/
structure Thing where
  P : World → (Nat → Nat) → Prop
  far : ∀ {w w' : World} {K : Nat → Nat}, P w K → w.heap.size ≤ w'.heap.size → (∀ k, K k ≠ 0 → w'.heap[k]? = w.heap[k]?) → P w' K
  sup : ∀ {w : World} {K : Nat → Nat}, P w K → ∀ k, K k ≠ 0 → k < w.heap.size

/-- A writer of the program. -/
def tw (g : Nat) (row : List Int) : Thing := ⟨fun w K => Wp w K g row, fun h a b => h.far a b, fun h => h.sup⟩

/-- A reader of the program. -/
def tr (g : Nat) (row : List Int) (p : Nat) : Thing := ⟨fun w K => Rp w K g row p, fun h a b => h.far a b, fun h => h.sup⟩

/-- A list of bytes. -/
def tl (v : Value) (l : List Int) : Thing :=
  ⟨fun w K => OB w 0 v l ∧ (∀ k, v.ownBlock = some k → K k ≠ 0) ∧ ∀ k, K k ≠ 0 → k < w.heap.size,
   fun h a b => ⟨h.1.move fun k hk => b k (h.2.1 k hk), h.2.1, fun k hk => Nat.lt_of_lt_of_le (h.2.2 k hk) a⟩, fun h => h.2.2⟩

/-- A block. -/
def tb (g : Nat) (o : Obj) : Thing :=
  ⟨fun w K => w.heap[g]? = some o ∧ K g ≠ 0 ∧ ∀ k, K k ≠ 0 → k < w.heap.size,
   fun h a b => ⟨(b g h.2.1).trans h.1, h.2.1, fun k hk => Nat.lt_of_lt_of_le (h.2.2 k hk) a⟩, fun h => h.2.2⟩

structure Herd (W w : World) (xs : List ((Nat → Nat) × Thing)) : Prop where
  bel : Below W.heap.size W w
  rep : ∀ (i : Nat) (d : (Nat → Nat) × Thing), xs[i]? = some d → d.2.P w d.1
  up : ∀ (i : Nat) (d : (Nat → Nat) × Thing), xs[i]? = some d → ∀ k, d.1 k ≠ 0 → W.heap.size ≤ k
  sep : ∀ (i j : Nat) (d e : (Nat → Nat) × Thing), xs[i]? = some d → xs[j]? = some e → i ≠ j → ∀ k, d.1 k ≠ 0 → e.1 k = 0

theorem Thing.zero {x : Thing} {w : World} {K : Nat → Nat} (h : x.P w K) {k : Nat} (hk : w.heap.size ≤ k) : K k = 0 := by
  by_cases e : K k = 0
  · exact e
  · have := x.sup h k e; omega

theorem get_set {α : Type} {l : List α} {x y : α} {i j : Nat} (h : (l.set j x)[i]? = some y) : (i ≠ j ∧ l[i]? = some y) ∨ (i = j ∧ y = x) := by
  by_cases e : j = i
  · subst e
    rw [List.getElem?_set_self'] at h
    obtain ⟨u, hu, e⟩ := Option.map_eq_some_iff.1 h
    exact .inr ⟨rfl, e.symm⟩
  · rw [List.getElem?_set_ne e] at h
    exact .inl ⟨fun e2 => e e2.symm, h⟩

theorem Herd.nil (W : World) : Herd W W [] := ⟨Below.refl _ _, (fun i d hd => by simp at hd), (fun i d hd => by simp at hd), (fun i j d e hd => by simp at hd)⟩

theorem Herd.below {W w w' : World} {xs : List ((Nat → Nat) × Thing)} (h : Herd W w xs) (hb : Below w.heap.size w w') : Herd W w' xs :=
  ⟨h.bel.trans (hb.mono h.bel.size), fun i d hd => d.2.far (h.rep i d hd) hb.size fun k hk => hb.block k (d.2.sup (h.rep i d hd) k hk), h.up, h.sep⟩

theorem Herd.drewN {W w : World} {xs : List ((Nat → Nat) × Thing)} (h : Herd W w xs) (n : Nat) : Herd W (w.drewN n) xs := h.below (below_drewN (Below.refl _ _) n)

theorem Herd.op {W w w' : World} {xs : List ((Nat → Nat) × Thing)} (h : Herd W w xs) (n : Nat) {K K' : Nat → Nat} {x x' : Thing} (hn : xs[n]? = some (K, x)) (hr : x'.P w' K') (hF : Fr K K' w w') : Herd W w' (xs.set n (K', x')) := by
  have hs := h.bel.size
  have hup := h.up n _ hn
  refine ⟨h.bel.trans (hF.below hup hs), fun i d hd => ?_, fun i d hd k hk => ?_, fun i j d e hd he hne k hk => ?_⟩
  · rcases get_set hd with ⟨hne, hd⟩ | ⟨_, rfl⟩
    · exact d.2.far (h.rep i d hd) hF.size fun k hk => hF.block k (d.2.sup (h.rep i d hd) k hk) (h.sep i n d _ hd hn hne k hk)
    · exact hr
  · rcases get_set hd with ⟨hne, hd⟩ | ⟨_, rfl⟩
    · exact h.up i d hd k hk
    · exact hF.up hup hs k hk
  · rcases get_set hd with ⟨hn1, hd⟩ | ⟨e1, rfl⟩
    · rcases get_set he with ⟨hn2, he⟩ | ⟨e2, rfl⟩
      · exact h.sep i j d e hd he hne k hk
      · exact (hF.role k (d.2.sup (h.rep i d hd) k hk)).trans (h.sep i n d _ hd hn hn1 k hk)
    · rcases get_set he with ⟨hn2, he⟩ | ⟨e2, rfl⟩
      · by_cases hl : k < w.heap.size
        · exact h.sep n j _ e hn he (fun e3 => hn2 e3.symm) k (fun e0 => hk ((hF.role k hl).trans e0))
        · exact Thing.zero (h.rep j e he) (by omega)
      · omega

theorem get_snoc {α : Type} {l : List α} {x y : α} {i : Nat} (h : (l ++ [x])[i]? = some y) : (l[i]? = some y) ∨ (i = l.length ∧ y = x) := by
  by_cases hi : i < l.length
  · rw [List.getElem?_append_left hi] at h
    exact .inl h
  · rw [List.getElem?_append_right (by omega)] at h
    have := (List.getElem?_eq_some_iff.1 h).1
    simp at this
    have e : i = l.length := by omega
    subst e
    simp at h
    exact .inr ⟨rfl, h.symm⟩

theorem Herd.push {W w w' : World} {xs : List ((Nat → Nat) × Thing)} (h : Herd W w xs) (hb : Below w.heap.size w w') {K : Nat → Nat} {x : Thing} (hr : x.P w' K) (hu : ∀ k, K k ≠ 0 → w.heap.size ≤ k) : Herd W w' (xs ++ [(K, x)]) := by
  have h' := h.below hb
  have hs := h.bel.size
  refine ⟨h'.bel, fun i d hd => ?_, fun i d hd k hk => ?_, fun i j d e hd he hne k hk => ?_⟩
  · rcases get_snoc hd with hd | ⟨_, rfl⟩
    · exact h'.rep i d hd
    · exact hr
  · rcases get_snoc hd with hd | ⟨_, rfl⟩
    · exact h.up i d hd k hk
    · have := hu k hk; omega
  · rcases get_snoc hd with hd | ⟨e1, rfl⟩
    · rcases get_snoc he with he | ⟨e2, rfl⟩
      · exact h.sep i j d e hd he hne k hk
      · by_cases e0 : K k = 0
        · exact e0
        · exact absurd (Thing.zero (h.rep i d hd) (hu k e0)) hk
    · rcases get_snoc he with he | ⟨e2, rfl⟩
      · exact Thing.zero (h.rep j e he) (hu k hk)
      · omega

/-- A list just made comes in. -/
theorem Herd.list {W w w' : World} {xs : List ((Nat → Nat) × Thing)} (h : Herd W w xs) (hb : Below w.heap.size w w') {v : Value} {l : List Int} (ho : OB w' w.heap.size v l) : ∃ K, Herd W w' (xs ++ [(K, tl v l)]) := by
  refine ⟨fun k => if v.ownBlock = some k then 1 else 0, h.push hb ⟨ho.base (Nat.zero_le _), fun k hk => by simp [hk], fun k hk => ?_⟩ fun k hk => ?_⟩
  · by_cases e : v.ownBlock = some k
    · exact (ho.lt k e).2
    · simp [e] at hk
  · by_cases e : v.ownBlock = some k
    · exact (ho.lt k e).1
    · simp [e] at hk

theorem hnewW {W w : World} {xs : List ((Nat → Nat) × Thing)} (H : Herd W w xs) : Calls Tryd.prog 12 #[] w fun e w' => ∃ g K, e = .returned (.pointer (some ⟨g, 0, none⟩)) ∧ Herd W w' (xs ++ [(K, tw g [])]) := by
  refine (newWriter_any w).mono ?_
  rintro e w1 ⟨g, K, rfl, hW, hn, hb⟩
  exact ⟨g, K, rfl, H.push hb hW hn⟩

theorem hput {W w : World} {xs : List ((Nat → Nat) × Thing)} (H : Herd W w xs) (i : Nat) {K : Nat → Nat} {g : Nat} {row : List Int} (hi : xs[i]? = some (K, tw g row)) (v n : Int) (hv : 0 ≤ v) (hv1 : v < 4294967296) :
    Calls Tryd.prog 24 #[.pointer (some ⟨g, 0, none⟩), .int .u32 v, .int .i64 n] w fun e w' => e = .returned (.int .i64 (putE row v n)) ∧ ∃ K', Herd W w' (xs.set i (K', tw g (putRow row v n))) := by
  have hw : Wp w K g row := H.rep i _ hi
  refine (wput_any hw v n hv hv1).mono ?_
  rintro e w1 ⟨rfl, K', h1, h2⟩
  exact ⟨rfl, K', H.op i hi (x' := tw g (putRow row v n)) h1 h2⟩

theorem halign {W w : World} {xs : List ((Nat → Nat) × Thing)} (H : Herd W w xs) (i : Nat) {K : Nat → Nat} {g : Nat} {row : List Int} (hi : xs[i]? = some (K, tw g row)) :
    Calls Tryd.prog 25 #[.pointer (some ⟨g, 0, none⟩)] w fun e w' => e = .returned (.tuple #[]) ∧ ∃ K', Herd W w' (xs.set i (K', tw g (pad row))) := by
  have hw : Wp w K g row := H.rep i _ hi
  refine (walign_any hw).mono ?_
  rintro e w1 ⟨rfl, K', h1, h2⟩
  exact ⟨rfl, K', H.op i hi (x' := tw g (pad row)) h1 h2⟩

theorem hlen {W w : World} {xs : List ((Nat → Nat) × Thing)} (H : Herd W w xs) (i : Nat) {K : Nat → Nat} {g : Nat} {row : List Int} (hi : xs[i]? = some (K, tw g row)) :
    Calls Tryd.prog 15 #[.pointer (some ⟨g, 0, none⟩)] w fun e w' => e = .returned (.int .i64 row.length) ∧ Herd W w' xs := by
  have hw : Wp w K g row := H.rep i _ hi
  refine (wlen_any hw).mono ?_
  rintro e w1 ⟨rfl, n, rfl⟩
  exact ⟨rfl, H.drewN n⟩

theorem hbytes {W w : World} {xs : List ((Nat → Nat) × Thing)} (H : Herd W w xs) (i : Nat) {K : Nat → Nat} {g : Nat} {row : List Int} (hi : xs[i]? = some (K, tw g row)) :
    Calls Tryd.prog 22 #[.pointer (some ⟨g, 0, none⟩)] w fun e w' => ∃ a c K', e = .returned (.slice a (pack row).length c) ∧ Herd W w' (xs ++ [(K', tl (.slice a (pack row).length c) (pack row))]) := by
  have hw : Wp w K g row := H.rep i _ hi
  refine (wbytes_any hw).mono ?_
  rintro e w1 ⟨a, c, rfl, h1, h2⟩
  obtain ⟨K', h3⟩ := H.list h2 h1
  exact ⟨a, c, K', rfl, h3⟩

theorem Herd.sb {W w : World} {xs : List ((Nat → Nat) × Thing)} (H : Herd W w xs) (i : Nat) {K : Nat → Nat} {v : Value} {l : List Int} (hi : xs[i]? = some (K, tl v l)) : SB w v l := by
  have h : (tl v l).P w K := H.rep i _ hi
  exact h.1.sb

theorem Herd.bit {W w : World} {xs : List ((Nat → Nat) × Thing)} (H : Herd W w xs) (i : Nat) {K : Nat → Nat} {g : Nat} {row : List Int} (hi : xs[i]? = some (K, tw g row)) : Bit row ∧ row.length ≤ 268435456 := by
  have h : Wp w K g row := H.rep i _ hi
  exact ⟨h.bit, h.top⟩

theorem hnewR {W w : World} {xs : List ((Nat → Nat) × Thing)} (H : Herd W w xs) (u : Value) (l : List Int) (h : SB w u l) (hB : Byt l) (hl : l.length ≤ 33554432) :
    Calls Tryd.prog 21 #[u] w fun e w' => ∃ g K, e = .returned (.pointer (some ⟨g, 0, none⟩)) ∧ Herd W w' (xs ++ [(K, tr g (unpack l) 0)]) := by
  refine (newReader_any u l w h hB hl).mono ?_
  rintro e w1 ⟨g, K, rfl, hR, hn, hb⟩
  exact ⟨g, K, rfl, H.push hb hR hn⟩

theorem htake {W w : World} {xs : List ((Nat → Nat) × Thing)} (H : Herd W w xs) (i : Nat) {K : Nat → Nat} {g : Nat} {row : List Int} {p : Nat} (hi : xs[i]? = some (K, tr g row p)) (n : Int) :
    Calls Tryd.prog 72 #[.pointer (some ⟨g, 0, none⟩), .int .i64 n] w fun e w' => e = .returned (.tuple #[.int .u32 (takeV row p n), .int .i64 (takeE row p n)]) ∧ Herd W w' (xs.set i (K, tr g row (takeP row p n))) := by
  have hw : Rp w K g row p := H.rep i _ hi
  refine (rdtake_any hw n).mono ?_
  rintro e w1 ⟨rfl, h1, h2⟩
  exact ⟨rfl, H.op i hi (x' := tr g row (takeP row p n)) h1 h2⟩

theorem hpeek {W w : World} {xs : List ((Nat → Nat) × Thing)} (H : Herd W w xs) (i : Nat) {K : Nat → Nat} {g : Nat} {row : List Int} {p : Nat} (hi : xs[i]? = some (K, tr g row p)) (n : Int) :
    Calls Tryd.prog 113 #[.pointer (some ⟨g, 0, none⟩), .int .i64 n] w fun e w' => e = .returned (.tuple #[.int .u32 (peekV row p n), .int .i64 (peekK row p n)]) ∧ Herd W w' xs := by
  have hw : Rp w K g row p := H.rep i _ hi
  refine (rdpeek_any hw n).mono ?_
  rintro e w1 ⟨rfl, q, rfl⟩
  exact ⟨rfl, H.drewN q⟩

theorem hskip {W w : World} {xs : List ((Nat → Nat) × Thing)} (H : Herd W w xs) (i : Nat) {K : Nat → Nat} {g : Nat} {row : List Int} {p : Nat} (hi : xs[i]? = some (K, tr g row p)) (n : Int) :
    Calls Tryd.prog 27 #[.pointer (some ⟨g, 0, none⟩), .int .i64 n] w fun e w' => e = .returned (.int .i64 (skipE row p n)) ∧ Herd W w' (xs.set i (K, tr g row (skipP row p n))) := by
  have hw : Rp w K g row p := H.rep i _ hi
  refine (rdskip_any hw n).mono ?_
  rintro e w1 ⟨rfl, h1, h2⟩
  exact ⟨rfl, H.op i hi (x' := tr g row (skipP row p n)) h1 h2⟩

theorem hat {W w : World} {xs : List ((Nat → Nat) × Thing)} (H : Herd W w xs) (i : Nat) {K : Nat → Nat} {g : Nat} {row : List Int} {p : Nat} (hi : xs[i]? = some (K, tr g row p)) :
    Calls Tryd.prog 23 #[.pointer (some ⟨g, 0, none⟩)] w fun e w' => e = .returned (.int .i64 p) ∧ Herd W w' xs := by
  have hw : Rp w K g row p := H.rep i _ hi
  refine (rdat_any hw).mono ?_
  rintro e w1 ⟨rfl, rfl⟩
  exact ⟨rfl, H⟩

theorem hleft {W w : World} {xs : List ((Nat → Nat) × Thing)} (H : Herd W w xs) (i : Nat) {K : Nat → Nat} {g : Nat} {row : List Int} {p : Nat} (hi : xs[i]? = some (K, tr g row p)) :
    Calls Tryd.prog 58 #[.pointer (some ⟨g, 0, none⟩)] w fun e w' => e = .returned (.int .i64 ((row.length : Int) - p)) ∧ Herd W w' xs := by
  have hw : Rp w K g row p := H.rep i _ hi
  refine (rdleft_any hw).mono ?_
  rintro e w1 ⟨rfl, q, rfl⟩
  exact ⟨rfl, H.drewN q⟩

theorem Herd.one {W w w' : World} {xs : List ((Nat → Nat) × Thing)} (h : Herd W w xs) (hb : Below w.heap.size w w') {K : Nat → Nat} {x : Thing} (hr : x.P w' K) (hu : ∀ k, K k ≠ 0 → w.heap.size ≤ k) : Herd W w' (xs ++ [(K, x)]) := h.push hb hr hu

end Go.Proofs.YtiabhmdefaabgabDoor

