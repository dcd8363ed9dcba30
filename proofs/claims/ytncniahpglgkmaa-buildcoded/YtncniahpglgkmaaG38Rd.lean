import Derived.Test.YtncniahpglgkmaaG37Wr
import Derived.Test.YtncniahpglgkmaaG12Arr
import Derived.Test.YtncniahpglgkmaaG10App
namespace Go.Proofs.Ytncniahpglgkmaa
open Go.RowKit Go.Maps
set_option maxRecDepth 20000

/-- The program's writer, with its row of bits. -/
def Wp (w : World) (K : Nat → Nat) (g : Nat) (row : List Int) : Prop := ∃ v d r h, WW w K g v d r h ∧ Lies row d r h ∧ row.length ≤ 268435456

theorem Wp.bit {w : World} {K : Nat → Nat} {g : Nat} {row : List Int} (h : Wp w K g row) : Bit row := by
  obtain ⟨_, _, _, _, _, h, _⟩ := h
  exact h.bit

theorem Wp.top {w : World} {K : Nat → Nat} {g : Nat} {row : List Int} (h : Wp w K g row) : row.length ≤ 268435456 := by
  obtain ⟨_, _, _, _, _, _, h⟩ := h
  exact h

theorem Wp.far {w w' : World} {K : Nat → Nat} {g : Nat} {row : List Int} (h : Wp w K g row) (hsz : w.heap.size ≤ w'.heap.size) (hb : ∀ k, K k ≠ 0 → w'.heap[k]? = w.heap[k]?) : Wp w' K g row := by
  obtain ⟨v, d, r, n, h1, h2, h3⟩ := h
  exact ⟨v, d, r, n, h1.far hsz hb, h2, h3⟩

theorem Wp.drewN {w : World} {K : Nat → Nat} {g : Nat} {row : List Int} (h : Wp w K g row) (n : Nat) : Wp (w.drewN n) K g row := h.far (Nat.le_refl _) (fun _ _ => rfl)

theorem Wp.sup {w : World} {K : Nat → Nat} {g : Nat} {row : List Int} (h : Wp w K g row) : ∀ k, K k ≠ 0 → k < w.heap.size := by
  obtain ⟨_, _, _, _, h, _⟩ := h
  exact h.sup

theorem wlen_any {w : World} {K : Nat → Nat} {g : Nat} {row : List Int} (h : Wp w K g row) :
    Calls Try.prog 22 #[.pointer (some ⟨g, 0, none⟩)] w fun e w' => e = .returned (.int .i64 row.length) ∧ ∃ n, w' = w.drewN n := by
  obtain ⟨v, d, r, n, h1, h2, h3⟩ := h
  have c0 : w.cell? ⟨g, 0, none⟩ = some v := h1.cell 0
  have c2 : w.cell? ⟨g, 2, none⟩ = some (.int .i64 n) := h1.cell 2
  obtain ⟨a, c, rfl⟩ := h1.o.shape
  have hl := h2.len
  have hd : d.length ≤ 33554432 := by omega
  have hn := h2.h8
  have HL : Hid ((row.length : Int) = 8 * d.length + n) := by show _ = _; omega
  clear h1 h2 hl h3
  rw [HL.out]
  go_enter Try.func22, Try.ntmps22
  go_wp2
  go_quiet (fail)
  go_wp2
  go_ret
  exact ⟨rfl, _, rfl⟩

theorem room_any {w : World} {K : Nat → Nat} {g : Nat} {row : List Int} (h : Wp w K g row) :
    Calls Try.prog 54 #[.pointer (some ⟨g, 0, none⟩)] w fun e w' => e = .returned (.int .i64 (268435456 - (row.length : Int))) ∧ ∃ n, w' = w.drewN n := by
  have H := hide h
  have ht := h.top
  clear h
  go_enter Try.func54, Try.ntmps54
  go_wp2_with fail
  refine (wlen_any H.out).mono ?_
  rintro e w' ⟨rfl, n, rfl⟩
  go_wp2
  go_ret
  exact ⟨rfl, n, rfl⟩

def putOk (row : List Int) (v n : Int) : Prop := Fit v n ∧ (row.length : Int) + n ≤ 268435456
instance (row : List Int) (v n : Int) : Decidable (putOk row v n) := by unfold putOk; exact inferInstance
def putE (row : List Int) (v n : Int) : Int := if putOk row v n then 0 else 1
def putRow (row : List Int) (v n : Int) : List Int := if putOk row v n then row ++ bts v n.toNat else row

theorem wput_any {w : World} {K : Nat → Nat} {g : Nat} {row : List Int} (h : Wp w K g row) (v n : Int) (hv : 0 ≤ v) (hv1 : v < 4294967296) :
    Calls Try.prog 36 #[.pointer (some ⟨g, 0, none⟩), .int .u32 v, .int .i64 n] w fun e w' => e = .returned (.int .i64 (putE row v n)) ∧ ∃ K', Wp w' K' g (putRow row v n) ∧ Fr K K' w w' := by
  have H := hide h
  have ht := h.top
  clear h
  by_cases hf : Fit v n
  case neg =>
    have HE : Hid (putE row v n = 1 ∧ putRow row v n = row) := ⟨if_neg fun h => hf h.1, if_neg fun h => hf h.1⟩
    have HD : Hid (decide (Fit v n) = false) := decide_eq_false hf
    clear hf
    go_enter Try.func36, Try.ntmps36
    go_wp2_with fail
    refine (fits_any v n hv hv1 _).mono ?_
    rintro e w' ⟨rfl, rfl⟩
    rw [HD.out]
    go_wp2
    go_ret
    rw [HE.out.1, HE.out.2]
    exact ⟨rfl, K, H.out, Fr.refl _ _⟩
  case pos =>
  have HD : Hid (decide (Fit v n) = true) := decide_eq_true hf
  obtain ⟨⟨n0, n1⟩, hf2⟩ := id hf
  by_cases hr : (row.length : Int) + n ≤ 268435456
  case neg =>
    have HE : Hid (putE row v n = 1 ∧ putRow row v n = row) := ⟨if_neg fun h => hr h.2, if_neg fun h => hr h.2⟩
    clear hf hf2
    go_enter Try.func36, Try.ntmps36
    go_wp2_with fail
    refine (fits_any v n hv hv1 _).mono ?_
    rintro e w' ⟨rfl, rfl⟩
    rw [HD.out]
    go_wp2_with fail
    refine (room_any H.out).mono ?_
    rintro e w1 ⟨rfl, q, rfl⟩
    go_wp2
    go_ret
    rw [HE.out.1, HE.out.2]
    exact ⟨rfl, K, H.out.drewN _, (Fr.refl _ _).drewN _⟩
  case pos =>
    have HE : Hid (putE row v n = 0 ∧ putRow row v n = row ++ bts v n.toNat) := ⟨if_pos ⟨hf, hr⟩, if_pos ⟨hf, hr⟩⟩
    clear hf
    obtain ⟨m, rfl⟩ : ∃ m : Nat, n = m := ⟨n.toNat, by omega⟩
    have HV : Hid (v < 2 ^ m) := by show _ < _; simpa using hf2
    clear hf2
    go_enter Try.func36, Try.ntmps36
    go_wp2_with fail
    refine (fits_any v m hv hv1 _).mono ?_
    rintro e w' ⟨rfl, rfl⟩
    rw [HD.out]
    go_wp2_with fail
    refine (room_any H.out).mono ?_
    rintro e w1 ⟨rfl, q, rfl⟩
    obtain ⟨u, d, r, k, a1, a2, a3⟩ := H.out
    have hl := a2.len
    have hdl : d.length ≤ 140737488351232 := by omega
    have HA1 := hide (a1.drewN q)
    have HA2 := hide a2
    clear a1 a2 hl
    go_wp2_with fail
    refine (put_any (v := u) HA1.out HA2.out v m hv HV.out (by omega) hdl).mono ?_
    rintro e w2 ⟨rfl, K', v', d', r', h', b1, b2, b3, _⟩
    have HF : Hid (∃ K', Wp w2 K' g (putRow row v m) ∧ Fr K K' w' w2) := by
      refine ⟨K', ⟨v', d', r', h', b1, ?_, ?_⟩, ((Fr.refl _ _).drewN q).trans b3⟩
      · rw [HE.out.2]; exact b2
      · rw [HE.out.2, List.length_append, length_bts]; simp only [Int.toNat_natCast]; omega
    clear b1 b2 b3
    go_wp2
    go_ret
    rw [HE.out.1]
    exact ⟨rfl, HF.out⟩

def alignRow (row : List Int) : List Int := pad row

theorem top_pad {row : List Int} (h : row.length ≤ 268435456) : (pad row).length ≤ 268435456 := by
  rw [length_pad]; omega

/-- A writer just made. -/
def MadeW (w : World) (e : Ending) (w' : World) : Prop := ∃ g K, e = .returned (.pointer (some ⟨g, 0, none⟩)) ∧ Wp w' K g [] ∧ (∀ k, K k ≠ 0 → w.heap.size ≤ k) ∧ Below w.heap.size w w'

theorem newWriter_any (w : World) : Calls Try.prog 19 #[] w fun e w' => MadeW w e w' := by
  go_enter Try.func19, Try.ntmps19
  go_wp2
  go_ret
  refine ⟨_, fun k => if k = w.heap.size then 1 else 0, rfl, ⟨.slice none 0 0, [], 0, 0, ⟨heap_alloc_new w _, by simp, World.ownsRow_nil _ _ _ _, (fun k hk => by simp [Value.ownBlock] at hk), fun k hk => ?_⟩, lies_nil, by simp⟩, fun k hk => ?_, (Below.refl _ _).alloc (Nat.le_refl _) _⟩
  · by_cases e : k = w.heap.size
    · rw [e, size_alloc']; omega
    · simp [e] at hk
  · by_cases e : k = w.heap.size
    · omega
    · simp [e] at hk
end Go.Proofs.Ytncniahpglgkmaa

namespace Go.Proofs.Ytncniahpglgkmaa
open Go.RowKit Go.Maps
set_option maxRecDepth 20000

/-- The program's reader: its row of bits and its place. -/
def Rp (w : World) (K : Nat → Nat) (g : Nat) (row : List Int) (p : Nat) : Prop := ∃ v d, WV 84 [.int .i64 p] w K g v d ∧ row = unpack d ∧ Byt d ∧ p ≤ 8 * d.length ∧ d.length ≤ 33554432

theorem Rp.far {w w' : World} {K : Nat → Nat} {g : Nat} {row : List Int} {p : Nat} (h : Rp w K g row p) (hsz : w.heap.size ≤ w'.heap.size) (hb : ∀ k, K k ≠ 0 → w'.heap[k]? = w.heap[k]?) : Rp w' K g row p := by
  obtain ⟨v, d, h1, h2, h3, h4⟩ := h
  exact ⟨v, d, h1.far hsz hb, h2, h3, h4⟩

theorem Rp.drewN {w : World} {K : Nat → Nat} {g : Nat} {row : List Int} {p : Nat} (h : Rp w K g row p) (n : Nat) : Rp (w.drewN n) K g row p := h.far (Nat.le_refl _) (fun _ _ => rfl)

theorem Rp.sup {w : World} {K : Nat → Nat} {g : Nat} {row : List Int} {p : Nat} (h : Rp w K g row p) : ∀ k, K k ≠ 0 → k < w.heap.size := by
  obtain ⟨_, _, h, _⟩ := h
  exact h.sup

theorem Rp.bit {w : World} {K : Nat → Nat} {g : Nat} {row : List Int} {p : Nat} (h : Rp w K g row p) : Bit row := by
  obtain ⟨_, _, _, h, _⟩ := h
  rw [h]; exact bit_unpack _

theorem Rp.le {w : World} {K : Nat → Nat} {g : Nat} {row : List Int} {p : Nat} (h : Rp w K g row p) : p ≤ row.length ∧ row.length ≤ 268435456 ∧ row.length % 8 = 0 := by
  obtain ⟨_, _, _, h, _, h3, h4⟩ := h
  rw [h, length_unpack]; omega

/-- The place has moved. -/
theorem Rp.move {w : World} {K : Nat → Nat} {g : Nat} {row : List Int} {p : Nat} (h : Rp w K g row p) (q : Nat) (x : Int) (hx : x = q) (hq : q ≤ row.length) : Rp (w.setCell ⟨g, 1, none⟩ (.int .i64 x)) K g row q ∧ Fr K K w (w.setCell ⟨g, 1, none⟩ (.int .i64 x)) := by
  subst hx
  obtain ⟨v, d, h1, h2, h3, h4, h5⟩ := h
  obtain ⟨a1, a2⟩ := h1.set 0 (.int .i64 q)
  exact ⟨⟨v, d, a1, h2, h3, by rw [h2, length_unpack] at hq; exact hq, h5⟩, a2⟩

theorem rdat_any {w : World} {K : Nat → Nat} {g : Nat} {row : List Int} {p : Nat} (h : Rp w K g row p) :
    Calls Try.prog 27 #[.pointer (some ⟨g, 0, none⟩)] w fun e w' => e = .returned (.int .i64 p) ∧ w' = w := by
  obtain ⟨v, d, h1, -⟩ := h
  have c1 : w.cell? ⟨g, 1, none⟩ = some (.int .i64 p) := h1.cell 1
  clear h1
  go_enter Try.func27, Try.ntmps27
  go_wp2
  go_ret
  exact ⟨rfl, rfl⟩

theorem rdleft_any {w : World} {K : Nat → Nat} {g : Nat} {row : List Int} {p : Nat} (h : Rp w K g row p) :
    Calls Try.prog 59 #[.pointer (some ⟨g, 0, none⟩)] w fun e w' => e = .returned (.int .i64 ((row.length : Int) - p)) ∧ ∃ n, w' = w.drewN n := by
  obtain ⟨v, d, h1, h2, h3, h4, h5⟩ := h
  have c0 : w.cell? ⟨g, 0, none⟩ = some v := h1.cell 0
  have c1 : w.cell? ⟨g, 1, none⟩ = some (.int .i64 p) := h1.cell 1
  obtain ⟨a, c, rfl⟩ := h1.o.shape
  have HL : Hid (((row.length : Int) - p) = 8 * d.length - p) := by show _ = _; rw [h2, length_unpack]; omega
  rw [HL.out]
  clear h1 h2
  go_enter Try.func59, Try.ntmps59
  go_wp2
  go_quiet (fail)
  go_wp2
  go_ret
  exact ⟨rfl, _, rfl⟩

theorem pow256 (k : Nat) : (256 : Int) ^ k = 2 ^ (8 * k) := by
  rw [Int.pow_mul]
  rfl

theorem u64_mask {x : Int} {n : Nat} (h0 : 0 ≤ x) (h1 : x < 2 ^ 63) (hn : n ≤ 32) : bits .and .u64 x (2 ^ n - 1) = x % 2 ^ n :=
  bits_mask .u64 63 (by decide) (fun n a b => by rw [IntKind.wrap_u64]; omega) n (by omega) x h0 h1

/-- A reader just made. -/
def MadeR (w : World) (row : List Int) (e : Ending) (w' : World) : Prop := ∃ g K, e = .returned (.pointer (some ⟨g, 0, none⟩)) ∧ Rp w' K g row 0 ∧ (∀ k, K k ≠ 0 → w.heap.size ≤ k) ∧ Below w.heap.size w w'

theorem newReader_any (u : Value) (l : List Int) (w : World) (h : SB w u l) (hB : Byt l) (hl : l.length ≤ 33554432) :
    Calls Try.prog 23 #[u] w fun e w' => MadeR w (unpack l) e w' := by
  have H := hide h
  have HBy := hide hB
  obtain ⟨a, c, hu, _⟩ := h
  subst hu
  clear hB
  go_enter Try.func23, Try.ntmps23
  go_wp2_with fail
  refine (slicesClone_any _ l w H.out (by omega)).mono ?_
  rintro e w1 ⟨a1, c1, rfl, ho, hb⟩
  have HO := hide ho
  have HB := hide hb
  clear ho hb
  go_wp2
  go_ret
  have hsz := HB.out.size
  refine ⟨_, fun k => if k = w1.heap.size then 1 else if (Value.slice a1 l.length c1).ownBlock = some k then 2 else 0, rfl, ⟨.slice a1 l.length c1, l, ⟨heap_alloc_new _ _, by simp, ?_, fun k hk => ?_, fun k hk => ?_⟩, rfl, HBy.out, by omega, hl⟩, fun k hk => ?_, HB.out.trans ((Below.refl _ _).alloc hsz _)⟩
  · exact (HO.out.alloc _).base (Nat.zero_le _)
  · have := HO.out.lt k hk
    rw [if_neg (by omega), if_pos hk]
  · rw [size_alloc']
    by_cases e1 : k = w1.heap.size
    · omega
    · rw [if_neg e1] at hk
      by_cases e2 : (Value.slice a1 l.length c1).ownBlock = some k
      · have := HO.out.lt k e2; omega
      · rw [if_neg e2] at hk; omega
  · by_cases e1 : k = w1.heap.size
    · omega
    · simp only [if_neg e1] at hk
      by_cases e2 : (Value.slice a1 l.length c1).ownBlock = some k
      · exact (HO.out.lt k e2).1
      · rw [if_neg e2] at hk; omega

theorem newReader_no (u : Value) (l : List Int) (w : World) (h : SB w u l) (hl : ¬ l.length ≤ 33554432) :
    Calls Try.prog 23 #[u] w fun e w' => e = .returned (.pointer none) ∧ w' = w := by
  obtain ⟨a, c, hu, _⟩ := h
  subst hu
  go_enter Try.func23, Try.ntmps23
  go_wp2
  go_ret
  exact ⟨rfl, rfl⟩

theorem getD_piece (d : List Int) {F L k : Nat} (hk : k < L) : ((d.drop F).take L).getD k 0 = d.getD (F + k) 0 := by
  simp [List.getD, hk]

/-- The loop's slices are pieces of the bytes. -/
theorem piece_cells {w : World} {b c : Nat} {d l : List Int} {F L : Nat} (h : OB w 0 (.slice (some ⟨b, 0, none⟩) d.length c) d) (hl : l = (d.drop F).take L) (hb : F + L ≤ d.length) : l.length = L ∧ ∀ k, k < l.length → w.cell? ⟨b, F + k, none⟩ = some (.int .u8 (l.getD k 0)) := by
  have e : l.length = L := by rw [hl, List.length_take, List.length_drop]; omega
  refine ⟨e, fun k hk => ?_⟩
  rw [h.get rfl (i := F + k) (by omega), hl, getD_piece d (by omega)]

theorem ahead_any {w : World} {K : Nat → Nat} {g : Nat} {row : List Int} {p : Nat} (h : Rp w K g row p) (n : Nat) (hn : n ≤ 32) :
    Calls Try.prog 58 #[.pointer (some ⟨g, 0, none⟩), .int .i64 n] w fun e w' => e = .returned (.int .u32 (ahead row p n)) ∧ ∃ m, w' = w.drewN m := by
  have hAb := ahead_bound h.bit p n
  obtain ⟨v, d, h1, h2, h3, h4, h5⟩ := h
  have c0 : w.cell? ⟨g, 0, none⟩ = some v := h1.cell 0
  have c1 : w.cell? ⟨g, 1, none⟩ = some (.int .i64 p) := h1.cell 1
  have HO := hide h1.o
  obtain ⟨a, c, rfl⟩ := h1.o.shape
  have HBy := hide h3
  obtain ⟨_, _, hve, hcc, hcm, _⟩ := h1.o.sb
  simp only [Value.slice.injEq] at hve
  obtain ⟨-, -, rfl⟩ := hve
  unfold maxLen at hcm
  clear h1 h3
  obtain ⟨F, HF⟩ : ∃ F : Nat, Hid (F = p / 8) := ⟨_, rfl⟩
  obtain ⟨S, HSS⟩ : ∃ S : Nat, Hid (S = p % 8) := ⟨_, rfl⟩
  have hp8 : ((p : Int) / 8) = (F : Int) := by rw [HF.out]; omega
  have hps : ((p : Int) % 8) = (S : Int) := by rw [HSS.out]; omega
  have hpF1 : 8 * F ≤ p := by rw [HF.out]; omega
  have hpF2 : p < 8 * F + 8 := by rw [HF.out]; omega
  have hS8 : S < 8 := by rw [HSS.out]; omega
  by_cases hedge : c = F
  · have hdF : d.length = F := by omega
    have HZ : Hid (ahead row p n = 0) := by
      have := ahead_bytes HBy.out p n _ rfl h4
      rw [show min ((p + n + 7) / 8) d.length - p / 8 = 0 by omega] at this
      show _ = _
      rw [h2, ← this]
      simp [le]
    rw [HZ.out]
    have hp32 : (2 : Int) ^ n ≤ 2 ^ 32 := pow_le hn
    have hpn := pow_pos n
    have hwn : IntKind.u64.wrap ((2 : Int) ^ n) = 2 ^ n := by rw [IntKind.wrap_u64]; omega
    have hwn1 : IntKind.u64.wrap ((2 : Int) ^ n - 1) = 2 ^ n - 1 := by rw [IntKind.wrap_u64]; omega
    have hmask := u64_mask (x := 0) (n := n) (by omega) (by omega) hn
    have hmask' : bits .and .u64 0 (2 ^ n - 1) = 0 := by rw [hmask]; simp
    have hle : ¬ ((p : Int) + n + 7) / 8 < (d.length : Int) := by omega
    subst hedge
    have hdi : (d.length : Int) = c := by omega
    clear hp32 hpn hmask h2 hAb HZ hdF
    go_enter Try.func58, Try.ntmps58
    go_wp2
    go_quiet (fail)
    rename_i nq _
    have c0 : (w.drewN nq).cell? ⟨g, 0, none⟩ = some (.slice a d.length c) := c0
    have c1 : (w.drewN nq).cell? ⟨g, 1, none⟩ = some (.int .i64 p) := c1
    go_wp2
    all_goals
      refine wp_loop_rounds 1 ?_
      rw [rounds_succ]
      go_wp2
      go_quiet (fail)
      go_wp2
      go_ret
      refine ⟨?_, _, World.drewN_drewN _ _ _⟩
      first | rfl | (simp [hmask']; done) | trace_state
  have hsome : ∃ b, a = some ⟨b, 0, none⟩ := by
    rcases HO.out.2 with ⟨e, h0⟩ | ⟨gb, c', cur, e, _⟩
    · simp only [Value.slice.injEq] at e
      have : c = 0 := e.2.2
      omega
    · simp only [Value.slice.injEq] at e
      exact ⟨gb, e.1⟩
  obtain ⟨b, rfl⟩ := hsome
  by_cases hm : (p + n + 7) / 8 ≤ d.length
  · obtain ⟨q, HQ⟩ : ∃ q : Nat, Hid (q = (p + n + 7) / 8) := ⟨_, rfl⟩
    have hq : ((p : Int) + n + 7) / 8 = (q : Int) := by rw [HQ.out]; omega
    have hqd : q ≤ d.length := by rw [HQ.out]; exact hm
    have hq1 : F ≤ q := by rw [HQ.out]; omega
    have hq2 : q = (p + n + 7) / 8 := HQ.out
    have HA : Hid (le ((d.drop F).take (q - F)) / 2 ^ S % 2 ^ n = ahead row p n) := by show _ = _; rw [h2, HF.out, HSS.out]; exact ahead_bytes HBy.out p n _ (by rw [HF.out] at *; omega) h4
    have hL : q - F ≤ 5 := by omega
    obtain ⟨l, HLl⟩ : ∃ l, Hid (l = (d.drop F).take (q - F)) := ⟨_, rfl⟩
    obtain ⟨hll, hcl⟩ := piece_cells HO.out HLl.out (by omega)
    have HG := hide hcl
    have HBl : Hid (Byt l) := by rw [HLl.out]; exact byt_take (byt_drop HBy.out _) _
    rw [← HLl.out] at HA
    obtain ⟨L, HLL⟩ : ∃ L, Hid (L = q - F) := ⟨_, rfl⟩
    have hLL : q - F = L := HLL.out.symm
    have hll' : l.length = L := by rw [hll, hLL]
    have hL5 : L ≤ 5 := by omega
    have HLE := hide hll'
    clear hm hq2
    clear hcl hll hll' hL h2 hAb
    go_enter Try.func58, Try.ntmps58
    go_wp2
    go_quiet (fail)
    rename_i nq _
    have c0 : (w.drewN nq).cell? ⟨g, 0, none⟩ = some (.slice (some ⟨b, 0, none⟩) d.length c) := c0
    have c1 : (w.drewN nq).cell? ⟨g, 1, none⟩ = some (.int .i64 p) := c1
    go_wp2
    go_loopw [7, 37] (fun x i wr => ∃ k : Nat, k ≤ L ∧ i = .int .i64 k ∧ x = .int .u64 (le (l.take k)) ∧ wr = w.drewN nq) (fun _ i _ => L - (intOf i).toNat)
    case atStart => exact ⟨0, Nat.zero_le _, rfl, rfl, rfl⟩
    case round =>
      obtain ⟨k, hk, rfl, rfl, rfl⟩ := hrel
      have hb := le_bound (byt_take HBl.out k)
      rw [List.length_take, HLE.out, Nat.min_eq_left hk, pow256] at hb
      obtain ⟨V, HV⟩ : ∃ V, Hid (V = le (l.take k)) := ⟨_, rfl⟩
      rw [← HV.out] at hb ⊢
      obtain ⟨V0, V1⟩ := hb
      by_cases hlt : k < L
      · obtain ⟨y, hy, HY⟩ : ∃ y, (w.drewN nq).cell? ⟨b, F + k, none⟩ = some (.int .u8 y) ∧ Hid (y = l.getD k 0) := ⟨_, HG.out k (by rw [HLE.out]; exact hlt), rfl⟩
        have hy01 : 0 ≤ y ∧ y < 256 := by rw [HY.out]; exact HBl.out k
        obtain ⟨hy0, hy1⟩ := hy01
        obtain ⟨hor, hz0, hz1, _⟩ := u64_or (r := V) (x := y) (h := 8 * k) (n := 8) V0 V1 hy0 hy1 (by omega)
        have hw : IntKind.u64.wrap (y * 2 ^ (8 * k)) = y * 2 ^ (8 * k) := by rw [IntKind.wrap_u64]; omega
        have HT : Hid (le (l.take (k + 1)) = V + y * 2 ^ (8 * k)) := by
          show _ = _
          rw [le_take (by rw [HLE.out]; exact hlt), ← HV.out, ← HY.out, pow256, Int.mul_comm]
        have hlt' : (k : Int) < (L : Int) := by omega
        clear hz0 hz1 V1
        go_wp2
        go_roundw
        case rel => exact ⟨k + 1, by omega, by go_num, by rw [HT.out], by trivial⟩
        case measure => simp [intOf]; omega
      · have hkL : k = L := by omega
        have HVL : Hid (V = le l) := by show _ = _; rw [HV.out, List.take_of_length_le (by rw [HLE.out]; omega)]
        have hlt' : ¬ (k : Int) < (L : Int) := by omega
        have h40 : (2 : Int) ^ (8 * k) ≤ 2 ^ 40 := pow_le (by omega)
        have hvs0 : 0 ≤ V / 2 ^ S := Int.ediv_nonneg V0 (Int.le_of_lt (pow_pos S))
        have hvs1 : V / 2 ^ S ≤ V := Int.ediv_le_self _ V0
        have hmask := u64_mask (x := V / 2 ^ S) (n := n) hvs0 (by omega) hn
        have hp32 : (2 : Int) ^ n ≤ 2 ^ 32 := pow_le hn
        have hpn := pow_pos n
        have hwn : IntKind.u64.wrap ((2 : Int) ^ n) = 2 ^ n := by rw [IntKind.wrap_u64]; omega
        have hwn1 : IntKind.u64.wrap ((2 : Int) ^ n - 1) = 2 ^ n - 1 := by rw [IntKind.wrap_u64]; omega
        have hr0 : 0 ≤ V / 2 ^ S % 2 ^ n := Int.emod_nonneg _ (by omega)
        have hr1 : V / 2 ^ S % 2 ^ n < 2 ^ n := Int.emod_lt_of_pos _ hpn
        have hwr : IntKind.u32.wrap (V / 2 ^ S % 2 ^ n) = V / 2 ^ S % 2 ^ n := by rw [IntKind.wrap_u32]; omega
        have HAV : Hid (V / 2 ^ S % 2 ^ n = ahead row p n) := by show _ = _; rw [HVL.out]; exact HA.out
        have HWR := hide hwr
        have HMK := hide hmask
        clear h40 hvs1 hp32 hpn hr0 hr1 hmask hwr V1
        go_wp2
        go_quiet (fail)
        go_wp2
        go_ret
        refine ⟨?_, _, World.drewN_drewN _ _ _⟩
        show Ending.returned (Value.int .u32 (IntKind.u32.wrap (bits .and .u64 (V / 2 ^ S) (2 ^ n - 1)))) = _
        rw [HMK.out, HWR.out, HAV.out]
  · have hq : (d.length : Int) < ((p : Int) + n + 7) / 8 := by omega
    have hq1 : F ≤ d.length := by omega
    have HA : Hid (le ((d.drop F).take (d.length - F)) / 2 ^ S % 2 ^ n = ahead row p n) := by show _ = _; rw [h2, HF.out, HSS.out]; exact ahead_bytes HBy.out p n _ (by rw [HF.out] at *; omega) h4
    have hL : d.length - F ≤ 5 := by omega
    obtain ⟨l, HLl⟩ : ∃ l, Hid (l = (d.drop F).take (d.length - F)) := ⟨_, rfl⟩
    obtain ⟨hll, hcl⟩ := piece_cells HO.out HLl.out (by omega)
    have HG := hide hcl
    have HBl : Hid (Byt l) := by rw [HLl.out]; exact byt_take (byt_drop HBy.out _) _
    rw [← HLl.out] at HA
    obtain ⟨L, HLL⟩ : ∃ L, Hid (L = d.length - F) := ⟨_, rfl⟩
    have hLL : d.length - F = L := HLL.out.symm
    have hll' : l.length = L := by rw [hll, hLL]
    have hL5 : L ≤ 5 := by omega
    have HLE := hide hll'
    clear hm
    clear hcl hll hll' hL h2 hAb
    go_enter Try.func58, Try.ntmps58
    go_wp2
    go_quiet (fail)
    rename_i nq _
    have c0 : (w.drewN nq).cell? ⟨g, 0, none⟩ = some (.slice (some ⟨b, 0, none⟩) d.length c) := c0
    have c1 : (w.drewN nq).cell? ⟨g, 1, none⟩ = some (.int .i64 p) := c1
    go_wp2
    go_loopw [7, 37] (fun x i wr => ∃ k : Nat, k ≤ L ∧ i = .int .i64 k ∧ x = .int .u64 (le (l.take k)) ∧ wr = w.drewN nq) (fun _ i _ => L - (intOf i).toNat)
    case atStart => exact ⟨0, Nat.zero_le _, rfl, rfl, rfl⟩
    case round =>
      obtain ⟨k, hk, rfl, rfl, rfl⟩ := hrel
      have hb := le_bound (byt_take HBl.out k)
      rw [List.length_take, HLE.out, Nat.min_eq_left hk, pow256] at hb
      obtain ⟨V, HV⟩ : ∃ V, Hid (V = le (l.take k)) := ⟨_, rfl⟩
      rw [← HV.out] at hb ⊢
      obtain ⟨V0, V1⟩ := hb
      by_cases hlt : k < L
      · obtain ⟨y, hy, HY⟩ : ∃ y, (w.drewN nq).cell? ⟨b, F + k, none⟩ = some (.int .u8 y) ∧ Hid (y = l.getD k 0) := ⟨_, HG.out k (by rw [HLE.out]; exact hlt), rfl⟩
        have hy01 : 0 ≤ y ∧ y < 256 := by rw [HY.out]; exact HBl.out k
        obtain ⟨hy0, hy1⟩ := hy01
        obtain ⟨hor, hz0, hz1, _⟩ := u64_or (r := V) (x := y) (h := 8 * k) (n := 8) V0 V1 hy0 hy1 (by omega)
        have hw : IntKind.u64.wrap (y * 2 ^ (8 * k)) = y * 2 ^ (8 * k) := by rw [IntKind.wrap_u64]; omega
        have HT : Hid (le (l.take (k + 1)) = V + y * 2 ^ (8 * k)) := by
          show _ = _
          rw [le_take (by rw [HLE.out]; exact hlt), ← HV.out, ← HY.out, pow256, Int.mul_comm]
        have hlt' : (k : Int) < (L : Int) := by omega
        clear hz0 hz1 V1
        go_wp2
        go_roundw
        case rel => exact ⟨k + 1, by omega, by go_num, by rw [HT.out], by trivial⟩
        case measure => simp [intOf]; omega
      · have hkL : k = L := by omega
        have HVL : Hid (V = le l) := by show _ = _; rw [HV.out, List.take_of_length_le (by rw [HLE.out]; omega)]
        have hlt' : ¬ (k : Int) < (L : Int) := by omega
        have h40 : (2 : Int) ^ (8 * k) ≤ 2 ^ 40 := pow_le (by omega)
        have hvs0 : 0 ≤ V / 2 ^ S := Int.ediv_nonneg V0 (Int.le_of_lt (pow_pos S))
        have hvs1 : V / 2 ^ S ≤ V := Int.ediv_le_self _ V0
        have hmask := u64_mask (x := V / 2 ^ S) (n := n) hvs0 (by omega) hn
        have hp32 : (2 : Int) ^ n ≤ 2 ^ 32 := pow_le hn
        have hpn := pow_pos n
        have hwn : IntKind.u64.wrap ((2 : Int) ^ n) = 2 ^ n := by rw [IntKind.wrap_u64]; omega
        have hwn1 : IntKind.u64.wrap ((2 : Int) ^ n - 1) = 2 ^ n - 1 := by rw [IntKind.wrap_u64]; omega
        have hr0 : 0 ≤ V / 2 ^ S % 2 ^ n := Int.emod_nonneg _ (by omega)
        have hr1 : V / 2 ^ S % 2 ^ n < 2 ^ n := Int.emod_lt_of_pos _ hpn
        have hwr : IntKind.u32.wrap (V / 2 ^ S % 2 ^ n) = V / 2 ^ S % 2 ^ n := by rw [IntKind.wrap_u32]; omega
        have HAV : Hid (V / 2 ^ S % 2 ^ n = ahead row p n) := by show _ = _; rw [HVL.out]; exact HA.out
        have HWR := hide hwr
        have HMK := hide hmask
        clear h40 hvs1 hp32 hpn hr0 hr1 hmask hwr V1
        go_wp2
        go_quiet (fail)
        go_wp2
        go_ret
        refine ⟨?_, _, World.drewN_drewN _ _ _⟩
        show Ending.returned (Value.int .u32 (IntKind.u32.wrap (bits .and .u64 (V / 2 ^ S) (2 ^ n - 1)))) = _
        rw [HMK.out, HWR.out, HAV.out]

end Go.Proofs.Ytncniahpglgkmaa

