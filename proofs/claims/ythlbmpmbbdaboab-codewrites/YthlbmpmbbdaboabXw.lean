import Derived.Test.YthlbmpmbbdaboabQr
namespace Go.Proofs.Ythlbmpmbbdaboab
open Go.RowKit Go.Maps
set_option maxRecDepth 20000

/-- The document's writer. -/
def Wx (w : World) (K : Nat → Nat) (g : Nat) (row : List Int) : Prop := ∃ v, WV 108 [] w K g v row ∧ Bit row ∧ row.length ≤ 268435456

theorem Wx.far {w w' : World} {K : Nat → Nat} {g : Nat} {row : List Int} (h : Wx w K g row) (hsz : w.heap.size ≤ w'.heap.size) (hb : ∀ k, K k ≠ 0 → w'.heap[k]? = w.heap[k]?) : Wx w' K g row := by
  obtain ⟨v, h1, h2⟩ := h
  exact ⟨v, h1.far hsz hb, h2⟩

theorem Wx.drewN {w : World} {K : Nat → Nat} {g : Nat} {row : List Int} (h : Wx w K g row) (n : Nat) : Wx (w.drewN n) K g row := h.far (Nat.le_refl _) (fun _ _ => rfl)

theorem Wx.sup {w : World} {K : Nat → Nat} {g : Nat} {row : List Int} (h : Wx w K g row) : ∀ k, K k ≠ 0 → k < w.heap.size := by
  obtain ⟨_, h, _⟩ := h
  exact h.sup

def MadeX (w : World) (e : Ending) (w' : World) : Prop := ∃ g K, e = .returned (.pointer (some ⟨g, 0, none⟩)) ∧ Wx w' K g [] ∧ (∀ k, K k ≠ 0 → w.heap.size ≤ k) ∧ Below w.heap.size w w'

theorem xnew_any (w : World) : Calls Try.prog 31 #[] w fun e w' => MadeX w e w' := by
  go_enter Try.func31, Try.ntmps31
  go_wp2
  go_ret
  refine ⟨_, fun k => if k = w.heap.size then 1 else 0, rfl, ⟨.slice none 0 0, ⟨heap_alloc_new w _, by simp, World.ownsRow_nil _ _ _ _, (fun k hk => by simp [Value.ownBlock] at hk), fun k hk => ?_⟩, bit_nil, by simp⟩, fun k hk => ?_, (Below.refl _ _).alloc (Nat.le_refl _) _⟩
  · by_cases e : k = w.heap.size
    · rw [e, size_alloc']; omega
    · simp [e] at hk
  · by_cases e : k = w.heap.size
    · omega
    · simp [e] at hk

theorem xlen_any {w : World} {K : Nat → Nat} {g : Nat} {row : List Int} (h : Wx w K g row) :
    Calls Try.prog 36 #[.pointer (some ⟨g, 0, none⟩)] w fun e w' => e = .returned (.int .i64 row.length) ∧ w' = w := by
  obtain ⟨v, h1, -⟩ := h
  have c0 : w.cell? ⟨g, 0, none⟩ = some v := h1.cell 0
  obtain ⟨a, c, rfl⟩ := h1.o.shape
  clear h1
  go_enter Try.func36, Try.ntmps36
  go_wp2
  go_ret
  exact ⟨rfl, rfl⟩

/-- The document's writer while bits are laid. -/
def Lay (w : World) (K : Nat → Nat) (g : Nat) (row : List Int) (wr : World) : Prop := ∃ K1 v1, WV 108 [] wr K1 g v1 row ∧ Fr K K1 w wr

theorem Lay.snoc {w wr W w6 : World} {K K1 : Nat → Nat} {g : Nat} {v1 v6 : Value} {row : List Int} {q : Int} {o : Obj} (hW : WV 108 [] wr K1 g v1 row) (hF : Fr K K1 w wr) (e : W.heap = (wr.alloc o).heap) (h1 : W.os = wr.os) (h2 : W.tape = wr.tape) (h3 : W.output = wr.output) (ho : OB w6 0 v6 (row ++ [q])) (hg : Grew W w6 v1 v6) : Lay w K g (row ++ [q]) (w6.setCell ⟨g, 0, none⟩ v6) := by
  obtain ⟨K', n1, n2⟩ := hW.snoc e h1 h2 h3 ho hg
  exact ⟨K', v6, n1, hF.trans n2⟩

set_option maxHeartbeats 2000000 in
theorem xput_any {w : World} {K : Nat → Nat} {g : Nat} {row : List Int} (h : Wx w K g row) (v n : Int) (hv : 0 ≤ v) (hv1 : v < 4294967296) :
    Calls Try.prog 32 #[.pointer (some ⟨g, 0, none⟩), .int .u32 v, .int .i64 n] w fun e w' => e = .returned (.int .i64 (putE row v n)) ∧ ∃ K', Wx w' K' g (putRow row v n) ∧ Fr K K' w w' := by
  have H := hide h
  obtain ⟨u, h1, h2, h3⟩ := h
  have c0 : w.cell? ⟨g, 0, none⟩ = some u := h1.cell 0
  obtain ⟨a, c, rfl⟩ := h1.o.shape
  have HW := hide h1
  have HBT := hide h2
  clear h1 h2
  by_cases hc : Cnt n
  case neg =>
    have HE : Hid (putE row v n = 1 ∧ putRow row v n = row) := ⟨if_neg fun h => hc h.1.1, if_neg fun h => hc h.1.1⟩
    by_cases h0 : n < 0
    · clear hc
      go_enter Try.func32, Try.ntmps32
      go_wp2
      go_ret
      rw [HE.out.1, HE.out.2]
      exact ⟨rfl, K, H.out, Fr.refl _ _⟩
    · have h32 : 32 < n := by unfold Cnt at hc; omega
      clear hc
      go_enter Try.func32, Try.ntmps32
      go_wp2
      go_ret
      rw [HE.out.1, HE.out.2]
      exact ⟨rfl, K, H.out, Fr.refl _ _⟩
  case pos =>
  have HC := hide hc
  obtain ⟨n0, n1⟩ := hc
  obtain ⟨m, rfl⟩ : ∃ m : Nat, n = m := ⟨n.toNat, by omega⟩
  by_cases hf : v < 2 ^ m
  case neg =>
    have HE : Hid (putE row v m = 1 ∧ putRow row v m = row) := ⟨if_neg fun h => hf (by simpa using h.1.2), if_neg fun h => hf (by simpa using h.1.2)⟩
    have HD : Hid (decide (v < 2 ^ m) = false) := decide_eq_false hf
    clear hf
    go_enter Try.func32, Try.ntmps32
    go_wp2_with fail
    refine (below_any v m (by omega) hv hv1 _).mono ?_
    rintro e wx ⟨rfl, hwx⟩
    subst hwx
    rw [HD.out]
    go_wp2
    go_ret
    rw [HE.out.1, HE.out.2]
    exact ⟨rfl, K, H.out, Fr.refl _ _⟩
  case pos =>
  have HD : Hid (decide (v < 2 ^ m) = true) := decide_eq_true hf
  by_cases hr : (row.length : Int) + m ≤ 268435456
  case neg =>
    have HE : Hid (putE row v m = 1 ∧ putRow row v m = row) := ⟨if_neg fun h => hr h.2, if_neg fun h => hr h.2⟩
    clear hf
    go_enter Try.func32, Try.ntmps32
    go_wp2_with fail
    refine (below_any v m (by omega) hv hv1 _).mono ?_
    rintro e wx ⟨rfl, hwx⟩
    subst hwx
    rw [HD.out]
    go_wp2
    go_ret
    rw [HE.out.1, HE.out.2]
    exact ⟨rfl, K, H.out, Fr.refl _ _⟩
  case pos =>
    have hok : putOk row v m := ⟨⟨HC.out, by simpa using hf⟩, hr⟩
    have HE : Hid (putE row v m = 0 ∧ putRow row v m = row ++ bts v m) := putE_ok hok
    clear hf hok
    go_enter Try.func32, Try.ntmps32
    go_wp2_with fail
    refine (below_any v m (by omega) hv hv1 _).mono ?_
    rintro e wx ⟨rfl, hwx⟩
    subst hwx
    rw [HD.out]
    go_wp2
    go_loopw [8] (fun i wr => ∃ k : Nat, k ≤ m ∧ i = .int .i64 k ∧ Hid (Lay wx K g (row ++ bts v k) wr)) (fun i _ => m - (intOf i).toNat)
    case atStart => exact ⟨0, Nat.zero_le _, rfl, K, _, by simpa [bts] using HW.out, Fr.refl _ _⟩
    case round =>
      clear c0
      obtain ⟨k, hk, rfl, HQ⟩ := hrel
      obtain ⟨K1, v1, hW, hF⟩ := HQ.out
      have HW1 := hide hW
      have HF1 := hide hF
      clear hW hF HQ
      by_cases hlt : k < m
      · have hlt' : (k : Int) < (m : Int) := by omega
        obtain ⟨D, HDd⟩ : ∃ D, Hid (D = row ++ bts v k) := ⟨_, rfl⟩
        rw [← HDd.out] at HW1
        have hDl : D.length ≤ 268435456 := by rw [HDd.out, List.length_append, length_bts]; omega
        obtain ⟨q, HQq⟩ : ∃ q, Hid (q = v / 2 ^ k % 2) := ⟨_, rfl⟩
        have HS : Hid (row ++ bts v (k + 1) = D ++ [q]) := by show _ = _; rw [bts_snoc, ← List.append_assoc, HDd.out, HQq.out]
        go_wp2_with fail
        refine (bit_any v k (by omega) hv hv1 _).mono ?_
        rintro e wy ⟨rfl, hwy⟩
        subst hwy
        rw [← HQq.out]
        obtain ⟨a1, p1, hv'⟩ := HW1.out.o.shape
        subst hv'
        have k0 : wy.cell? ⟨g, 0, none⟩ = some (.slice a1 D.length p1) := HW1.out.cell 0
        obtain ⟨k1, r1, r2, r3⟩ := HW1.out.alloc1 q
        have HROW := hide r1
        have HSRC := hide r2
        have HG6 := hide r3
        have HLEN : Hid (D.length + ([q] : List Int).length ≤ 140737488355328) := by show _ ≤ _; simp; omega
        clear r1 r2 r3
        go_wp2_with (at_builtin; refine wpList_app rfl _ _ 42 rfl 0 _ _ D [q] rfl (HROW.out _ rfl) rfl (HSRC.out _ rfl) HLEN.out (Nat.zero_le _) ?_)
        intro v6 w6 ho6 hg6
        obtain ⟨t0, tf⟩ := HG6.out _ w6 _ rfl hg6
        have HNX : Hid (Lay wx K g (row ++ bts v (k + 1)) (w6.setCell ⟨g, 0, none⟩ v6)) := by
          rw [HS.out]
          exact Lay.snoc HW1.out HF1.out rfl rfl rfl rfl ho6 hg6
        obtain ⟨a6, p6, rfl⟩ := ho6.shape
        clear ho6 hg6 HROW HSRC HG6 k1
        go_wp2
        go_roundw
        case rel => exact ⟨k + 1, by omega, by go_num, by show Lay _ _ _ _ _; simpa using HNX.out⟩
        case measure => simp [intOf]; omega
      · obtain rfl : k = m := by omega
        have hlt' : ¬ (k : Int) < (k : Int) := by omega
        have HFIN : Hid (∃ K', Wx wr K' g (row ++ bts v k) ∧ Fr K K' wx wr) := ⟨K1, ⟨v1, HW1.out, HBT.out.append (bit_bts _ _), by rw [List.length_append, length_bts]; omega⟩, HF1.out⟩
        go_wp2
        go_ret
        rw [HE.out.1, HE.out.2]
        exact ⟨rfl, HFIN.out⟩

end Go.Proofs.Ythlbmpmbbdaboab
