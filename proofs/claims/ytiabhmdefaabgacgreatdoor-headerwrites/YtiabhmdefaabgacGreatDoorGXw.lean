import Derived.Test.YtiabhmdefaabgacGreatDoorGQq
import Derived.Test.YtiabhmdefaabgacGreatDoorG3r
namespace Go.Proofs.YtiabhmdefaabgacGreatDoor
open Go.RowKit Go.Maps
set_option maxRecDepth 20000

/-- The document's writer. -/
def Wx (w : World) (K : Nat → Nat) (g : Nat) (row : List Int) : Prop := ∃ v, WV 58 [] w K g v row ∧ Bit row ∧ row.length ≤ 268435456

theorem Wx.far {w w' : World} {K : Nat → Nat} {g : Nat} {row : List Int} (h : Wx w K g row) (hsz : w.heap.size ≤ w'.heap.size) (hb : ∀ k, K k ≠ 0 → w'.heap[k]? = w.heap[k]?) : Wx w' K g row := by
  obtain ⟨v, h1, h2⟩ := h
  exact ⟨v, h1.far hsz hb, h2⟩

theorem Wx.drewN {w : World} {K : Nat → Nat} {g : Nat} {row : List Int} (h : Wx w K g row) (n : Nat) : Wx (w.drewN n) K g row := h.far (Nat.le_refl _) (fun _ _ => rfl)

theorem Wx.sup {w : World} {K : Nat → Nat} {g : Nat} {row : List Int} (h : Wx w K g row) : ∀ k, K k ≠ 0 → k < w.heap.size := by
  obtain ⟨_, h, _⟩ := h
  exact h.sup

def MadeX (w : World) (e : Ending) (w' : World) : Prop := ∃ g K, e = .returned (.pointer (some ⟨g, 0, none⟩)) ∧ Wx w' K g [] ∧ (∀ k, K k ≠ 0 → w.heap.size ≤ k) ∧ Below w.heap.size w w'

theorem xnew_any (w : World) : Calls Tryz.prog 16 #[] w fun e w' => MadeX w e w' := by
  go_enter Tryz.func16, Tryz.ntmps16
  go_wp2
  go_ret
  refine ⟨_, fun k => if k = w.heap.size then 1 else 0, rfl, ⟨.slice none 0 0, ⟨heap_alloc_new w _, by simp, World.ownsRow_nil _ _ _ _, (fun k hk => by simp [Value.ownBlock] at hk), fun k hk => ?_⟩, bit_nil, by simp⟩, fun k hk => ?_, (Below.refl _ _).alloc (Nat.le_refl _) _⟩
  · by_cases e : k = w.heap.size
    · rw [e, size_alloc']; omega
    · simp [e] at hk
  · by_cases e : k = w.heap.size
    · omega
    · simp [e] at hk

theorem xlen_any {w : World} {K : Nat → Nat} {g : Nat} {row : List Int} (h : Wx w K g row) :
    Calls Tryz.prog 11 #[.pointer (some ⟨g, 0, none⟩)] w fun e w' => e = .returned (.int .i64 row.length) ∧ w' = w := by
  obtain ⟨v, h1, -⟩ := h
  have c0 : w.cell? ⟨g, 0, none⟩ = some v := h1.cell 0
  obtain ⟨a, c, rfl⟩ := h1.o.shape
  clear h1
  go_enter Tryz.func11, Tryz.ntmps11
  go_wp2
  go_ret
  exact ⟨rfl, rfl⟩

/-- The document's writer while bits are laid. -/
def Lay (w : World) (K : Nat → Nat) (g : Nat) (row : List Int) (wr : World) : Prop := ∃ K1 v1, WV 58 [] wr K1 g v1 row ∧ Fr K K1 w wr

theorem Lay.snoc {w wr W w6 : World} {K K1 : Nat → Nat} {g : Nat} {v1 v6 : Value} {row : List Int} {q : Int} {o : Obj} (hW : WV 58 [] wr K1 g v1 row) (hF : Fr K K1 w wr) (e : W.heap = (wr.alloc o).heap) (h1 : W.os = wr.os) (h2 : W.tape = wr.tape) (h3 : W.output = wr.output) (ho : OB w6 0 v6 (row ++ [q])) (hg : Grew W w6 v1 v6) : Lay w K g (row ++ [q]) (w6.setCell ⟨g, 0, none⟩ v6) := by
  obtain ⟨K', n1, n2⟩ := hW.snoc e h1 h2 h3 ho hg
  exact ⟨K', v6, n1, hF.trans n2⟩

set_option maxHeartbeats 2000000 in
theorem xput_any {w : World} {K : Nat → Nat} {g : Nat} {row : List Int} (h : Wx w K g row) (v n : Int) (hv : 0 ≤ v) (hv1 : v < 4294967296) :
    Calls Tryz.prog 18 #[.pointer (some ⟨g, 0, none⟩), .int .u32 v, .int .i64 n] w fun e w' => e = .returned (.int .i64 (putE row v n)) ∧ ∃ K', Wx w' K' g (putRow row v n) ∧ Fr K K' w w' := by
  have H := hide h
  obtain ⟨u, h1, h2, h3⟩ := h
  have c0 : w.cell? ⟨g, 0, none⟩ = some u := h1.cell 0
  obtain ⟨a, c, rfl⟩ := h1.o.shape
  have HW := hide h1
  have HBT := hide h2
  clear h1 h2
  by_cases hc : Cnt n
  case neg =>
    have HE : Hid (putE row v n = 1 ∧ putRow row v n = row) := ⟨if_neg fun h => hc h.1.1, if_neg fun h => hc h.1.1⟩
    by_cases h0 : n < 0
    · clear hc
      go_enter Tryz.func18, Tryz.ntmps18
      go_wp2
      go_ret
      rw [HE.out.1, HE.out.2]
      exact ⟨rfl, K, H.out, Fr.refl _ _⟩
    · have h32 : 32 < n := by unfold Cnt at hc; omega
      clear hc
      go_enter Tryz.func18, Tryz.ntmps18
      go_wp2
      go_ret
      rw [HE.out.1, HE.out.2]
      exact ⟨rfl, K, H.out, Fr.refl _ _⟩
  case pos =>
  have HC := hide hc
  obtain ⟨n0, n1⟩ := hc
  obtain ⟨m, rfl⟩ : ∃ m : Nat, n = m := ⟨n.toNat, by omega⟩
  by_cases hf : v < 2 ^ m
  case neg =>
    have HE : Hid (putE row v m = 1 ∧ putRow row v m = row) := ⟨if_neg fun h => hf (by simpa using h.1.2), if_neg fun h => hf (by simpa using h.1.2)⟩
    have HD : Hid (decide (v < 2 ^ m) = false) := decide_eq_false hf
    clear hf
    go_enter Tryz.func18, Tryz.ntmps18
    go_wp2_with fail
    refine (below_any v m (by omega) hv hv1 _).mono ?_
    rintro e wx ⟨rfl, hwx⟩
    subst hwx
    rw [HD.out]
    go_wp2
    go_ret
    rw [HE.out.1, HE.out.2]
    exact ⟨rfl, K, H.out, Fr.refl _ _⟩
  case pos =>
  have HD : Hid (decide (v < 2 ^ m) = true) := decide_eq_true hf
  by_cases hr : (row.length : Int) + m ≤ 268435456
  case neg =>
    have HE : Hid (putE row v m = 1 ∧ putRow row v m = row) := ⟨if_neg fun h => hr h.2, if_neg fun h => hr h.2⟩
    clear hf
    go_enter Tryz.func18, Tryz.ntmps18
    go_wp2_with fail
    refine (below_any v m (by omega) hv hv1 _).mono ?_
    rintro e wx ⟨rfl, hwx⟩
    subst hwx
    rw [HD.out]
    go_wp2
    go_ret
    rw [HE.out.1, HE.out.2]
    exact ⟨rfl, K, H.out, Fr.refl _ _⟩
  case pos =>
    have hok : putOk row v m := ⟨⟨HC.out, by simpa using hf⟩, hr⟩
    have HE : Hid (putE row v m = 0 ∧ putRow row v m = row ++ bts v m) := putE_ok hok
    clear hf hok
    go_enter Tryz.func18, Tryz.ntmps18
    go_wp2_with fail
    refine (below_any v m (by omega) hv hv1 _).mono ?_
    rintro e wx ⟨rfl, hwx⟩
    subst hwx
    rw [HD.out]
    go_wp2
    go_loopw [8] (fun i wr => ∃ k : Nat, k ≤ m ∧ i = .int .i64 k ∧ Hid (Lay wx K g (row ++ bts v k) wr)) (fun i _ => m - (intOf i).toNat)
    case atStart => exact ⟨0, Nat.zero_le _, rfl, K, _, by simpa [bts] using HW.out, Fr.refl _ _⟩
    case round =>
      clear c0
      obtain ⟨k, hk, rfl, HQ⟩ := hrel
      obtain ⟨K1, v1, hW, hF⟩ := HQ.out
      have HW1 := hide hW
      have HF1 := hide hF
      clear hW hF HQ
      by_cases hlt : k < m
      · have hlt' : (k : Int) < (m : Int) := by omega
        obtain ⟨D, HDd⟩ : ∃ D, Hid (D = row ++ bts v k) := ⟨_, rfl⟩
        rw [← HDd.out] at HW1
        have hDl : D.length ≤ 268435456 := by rw [HDd.out, List.length_append, length_bts]; omega
        obtain ⟨q, HQq⟩ : ∃ q, Hid (q = v / 2 ^ k % 2) := ⟨_, rfl⟩
        have HS : Hid (row ++ bts v (k + 1) = D ++ [q]) := by show _ = _; rw [bts_snoc, ← List.append_assoc, HDd.out, HQq.out]
        go_wp2_with fail
        refine (bit_any v k (by omega) hv hv1 _).mono ?_
        rintro e wy ⟨rfl, hwy⟩
        subst hwy
        rw [← HQq.out]
        obtain ⟨a1, p1, hv'⟩ := HW1.out.o.shape
        subst hv'
        have k0 : wy.cell? ⟨g, 0, none⟩ = some (.slice a1 D.length p1) := HW1.out.cell 0
        obtain ⟨k1, r1, r2, r3⟩ := HW1.out.alloc1 q
        have HROW := hide r1
        have HSRC := hide r2
        have HG6 := hide r3
        have HLEN : Hid (D.length + ([q] : List Int).length ≤ 140737488355328) := by show _ ≤ _; simp; omega
        clear r1 r2 r3
        go_wp2_with (at_builtin; refine wpList_app rfl _ _ 36 rfl 0 _ _ D [q] rfl (HROW.out _ rfl) rfl (HSRC.out _ rfl) HLEN.out (Nat.zero_le _) ?_)
        intro v6 w6 ho6 hg6
        obtain ⟨t0, tf⟩ := HG6.out _ w6 _ rfl hg6
        have HNX : Hid (Lay wx K g (row ++ bts v (k + 1)) (w6.setCell ⟨g, 0, none⟩ v6)) := by
          rw [HS.out]
          exact Lay.snoc HW1.out HF1.out rfl rfl rfl rfl ho6 hg6
        obtain ⟨a6, p6, rfl⟩ := ho6.shape
        clear ho6 hg6 HROW HSRC HG6 k1
        go_wp2
        go_roundw
        case rel => exact ⟨k + 1, by omega, by go_num, by show Lay _ _ _ _ _; simpa using HNX.out⟩
        case measure => simp [intOf]; omega
      · obtain rfl : k = m := by omega
        have hlt' : ¬ (k : Int) < (k : Int) := by omega
        have HFIN : Hid (∃ K', Wx wr K' g (row ++ bts v k) ∧ Fr K K' wx wr) := ⟨K1, ⟨v1, HW1.out, HBT.out.append (bit_bts _ _), by rw [List.length_append, length_bts]; omega⟩, HF1.out⟩
        go_wp2
        go_ret
        rw [HE.out.1, HE.out.2]
        exact ⟨rfl, HFIN.out⟩

end Go.Proofs.YtiabhmdefaabgacGreatDoor

namespace Go.Proofs.YtiabhmdefaabgacGreatDoor
open Go.RowKit Go.Maps
set_option maxRecDepth 20000

end Go.Proofs.YtiabhmdefaabgacGreatDoor

namespace Go.Proofs.YtiabhmdefaabgacGreatDoor
open Go.RowKit Go.Maps
set_option maxRecDepth 20000

theorem WV.bytes {T : Nat} {rest : List Value} {w : World} {K : Nat → Nat} {g : Nat} {v : Value} {d : List Int} (h : WV T rest w K g v d) : ∃ a c, v = .slice a d.length c ∧ d.length ≤ c ∧ c ≤ 9223372036854775807 ∧ ∀ i, i < d.length → ∃ b, a = some ⟨b, 0, none⟩ ∧ w.cell? ⟨b, i, none⟩ = some (.int .u8 (d.getD i 0)) := by
  obtain ⟨a, c, rfl⟩ := h.o.shape
  obtain ⟨q1, q2⟩ := h.o.sb.cap
  refine ⟨a, c, rfl, q1, q2, fun i hi => ?_⟩
  rcases h.o.2 with ⟨e, h0⟩ | ⟨gb, c', cur, e, _⟩
  · omega
  · simp only [Value.slice.injEq] at e
    obtain ⟨rfl, -, -⟩ := e
    exact ⟨gb, rfl, h.o.get rfl hi⟩

theorem byte_of {row : List Int} (hb : Bit row) {i : Nat} (hi : i < row.length) : row.getD i 0 = 0 ∨ row.getD i 0 = 1 := by
  have : row.getD i 0 = row[i] := by simp [List.getD, hi]
  rw [this]
  exact hb _ (List.getElem_mem _)

/-- A byte of an owned list is written. -/
theorem OB.set {w : World} {base : Nat} {v : Value} {l : List Int} (h : OB w base v l) {B i : Nat} (hv : v.ownBlock = some B) (z : Int) : OB (w.setCell ⟨B, i, none⟩ (.int .u8 z)) base v (l.set i z) := by
  refine ⟨by simp, ?_⟩
  rcases h.2 with ⟨rfl, _⟩ | ⟨gb, cap, cur, rfl, k1, k2, k3, k4, k5, k6⟩
  · simp [Value.ownBlock] at hv
  · simp [Value.ownBlock] at hv
    subst hv
    refine .inr ⟨gb, cap, cur.setIfInBounds i (.int .u8 z), by simp, k1, heap_setCell_at _ k2, by simpa using k3, k4, by simpa using k5, ?_⟩
    rw [Array.toList_setIfInBounds, List.take_set, List.length_set, k6, List.map_set]

theorem OB.free {w : World} {base : Nat} {v : Value} {l : List Int} (h : OB w base v l) {B : Nat} (hv : v.ownBlock = some B) (i : Nat) : w.frozen? ⟨B, i, none⟩ = false := by
  rcases h.2 with ⟨rfl, _⟩ | ⟨gb, cap, cur, rfl, k1, k2, _⟩
  · simp [Value.ownBlock] at hv
  · simp [Value.ownBlock] at hv
    subst hv
    simp [World.frozen?, k2]

set_option maxHeartbeats 4000000 in
theorem xbytes_any {w : World} {K : Nat → Nat} {g : Nat} {row : List Int} (h : Wx w K g row) :
    Calls Tryz.prog 14 #[.pointer (some ⟨g, 0, none⟩)] w fun e w' => ∃ a c, e = .returned (.slice a (pack row).length c) ∧ OB w' w.heap.size (.slice a (pack row).length c) (pack row) ∧ Below w.heap.size w w' := by
  obtain ⟨uv, h1, h2, h3⟩ := h
  obtain ⟨a, c, hv, q1, q2, q3⟩ := h1.bytes
  subst hv
  have HW := hide h1
  have HBT := hide h2
  have HQ3 := hide q3
  have hgl := h1.lt
  have HC0 : Hid (w.cell? ⟨g, 0, none⟩ = some (.slice a row.length c)) := h1.cell 0
  have c0 := HC0.out
  clear h1 h2 q3
  go_enter Tryz.func14, Tryz.ntmps14
  go_wp2
  go_loopw [3, 4] (fun u i wr => ∃ k : Nat, k ≤ row.length ∧ i = .int .i64 k ∧ Hid (OB wr w.heap.size u (pack (row.take k))) ∧ Hid (Below w.heap.size w wr)) (fun _ i _ => row.length - (intOf i).toNat)
  case atStart => exact ⟨0, Nat.zero_le _, rfl, by show OB _ _ _ _; rw [List.take_zero, pack_nil]; exact World.ownsRow_nil _ _ _ _, Below.refl _ _⟩
  case round =>
    clear c0
    obtain ⟨k, hk, rfl, HO, HB⟩ := hrel
    have k0 : wr.cell? ⟨g, 0, none⟩ = some (.slice a row.length c) := (HB.out.cell hgl).trans HC0.out
    by_cases hlt : k < row.length
    · have hlt' : (k : Int) < (row.length : Int) := by omega
      obtain ⟨b, hb, hcw⟩ := HQ3.out k hlt
      subst hb
      obtain ⟨y, HY⟩ : ∃ y, Hid (y = row.getD k 0) := ⟨_, rfl⟩
      have hyb := byte_of HBT.out hlt
      rw [← HY.out] at hcw hyb
      have hbl := World.block_lt_of_cell? _ _ hcw
      have hc : wr.cell? ⟨b, k, none⟩ = some (.int .u8 y) := (HB.out.cell hbl).trans hcw
      have hy0 : 0 ≤ y := by omega
      have hy1 : y ≤ 1 := by omega
      obtain ⟨F, HF⟩ : ∃ F : Nat, Hid (F = k / 8) := ⟨_, rfl⟩
      obtain ⟨S, HSS⟩ : ∃ S : Nat, Hid (S = k % 8) := ⟨_, rfl⟩
      have hkF : ((k : Int) / 8) = (F : Int) := by rw [HF.out]; omega
      have hkS : ((k : Int) % 8) = (S : Int) := by rw [HSS.out]; omega
      have hS8 : S < 8 := by rw [HSS.out]; omega
      have htl : (row.take k).length = k := by rw [List.length_take]; omega
      have hps := pack_snoc (HBT.out.take k) hyb
      rw [htl, ← HF.out, ← HSS.out] at hps
      have hyt : row[k]? = some y := by rw [HY.out]; simp [List.getD, hlt]
      have hts := take_one hyt
      rw [← hts] at hps
      have hpl := length_pack (HBT.out.take k)
      rw [htl] at hpl
      obtain ⟨P, HP⟩ : ∃ P, Hid (P = pack (row.take k)) := ⟨_, rfl⟩
      rw [← HP.out] at hps hpl HO
      have HPS := hide hps
      have HPL := hide hpl
      have HBs := HB.out.size
      clear hps hts hyt htl hcw hpl
      have hpp := pow_pos S
      have h27 : (2 : Int) ^ S ≤ 2 ^ 7 := pow_le (by omega)
      have hyS : 0 ≤ y * 2 ^ S ∧ y * 2 ^ S ≤ 2 ^ S := by rcases hyb with e | e <;> rw [e] <;> omega
      have hw1 : IntKind.u8.wrap (y * 2 ^ S) = y * 2 ^ S := by rw [IntKind.wrap_u8]; omega
      by_cases hS0 : S = 0
      · subst hS0
        have hPF : P.length = F := by rw [HPL.out, HF.out]; have := HSS.out; omega
        have HPF := hide hPF
        have HPN : Hid (pack (row.take (k + 1)) = P ++ [y]) := HPS.out.1 rfl
        obtain ⟨a1, p1, hu⟩ := HO.out.shape
        rw [hPF] at hu
        subst hu
        have HALC : Hid (OB (wr.alloc (.cells #[.int .u8 0] 5)) w.heap.size (.slice a1 F p1) P) := HO.out.alloc _
        have HSR : Hid (Src Tryz.prog 1 36 (.slice (some ⟨wr.heap.size, 0, none⟩) 1 1) ([0] : List Int).length (([0] : List Int).map (Value.int .u8)) (wr.alloc (.cells #[.int .u8 0] 5))) := (built_sb wr [0] (by unfold maxLen; simp)).src
        clear hPF hyS hpp h27
        go_wp2_with (at_builtin; refine wpList_app rfl _ _ 36 rfl w.heap.size _ _ P [0] rfl HALC.out rfl HSR.out (by rw [HPF.out]; simp; omega) (by simp; omega) ?_)
        intro v3 w3 ho3 hgr3
        have HB3 : Hid (Below w.heap.size w w3) := (HB.out.alloc HBs _).grown hgr3.by (by simp; omega) (fun j hj => by have := HO.out.lt j hj; omega)
        obtain ⟨g3, p3, hv3, hgb3, hg3⟩ := World.ownsRow.form ho3 (by simp)
        rw [List.length_append, HPF.out, List.length_singleton] at hv3
        subst hv3
        have HO3 := hide ho3
        have hx : w3.cell? ⟨g3, F, none⟩ = some (.int .u8 0) := by
          rw [ho3.get rfl (i := F) (by rw [List.length_append, HPF.out]; simp)]
          have : (P ++ [0]).getD F 0 = 0 := by rw [← HPF.out]; simp
          rw [this]
        have hxf : w3.frozen? ⟨g3, F, none⟩ = false := ho3.free rfl F
        have k3 : w3.cell? ⟨g, 0, none⟩ = some (.slice (some ⟨b, 0, none⟩) row.length c) := (HB3.out.cell hgl).trans HC0.out
        have hc3 : w3.cell? ⟨b, k, none⟩ = some (.int .u8 y) := by
          have h0 : w.cell? ⟨b, k, none⟩ = some (.int .u8 y) := by
            obtain ⟨b', e1, e2⟩ := HQ3.out k hlt
            simp only [Option.some.injEq, Addr.mk.injEq, and_true] at e1
            subst e1
            rw [e2, HY.out]
          exact (HB3.out.cell hbl).trans h0
        have HNX : Hid (∀ n, OB ((w3.drewN n).setCell ⟨g3, F, none⟩ (.int .u8 y)) w.heap.size (.slice (some ⟨g3, 0, none⟩) (F + 1) p3) (P ++ [y]) ∧ Below w.heap.size w ((w3.drewN n).setCell ⟨g3, F, none⟩ (.int .u8 y))) := fun n => by
          have h1 := OB.set (w := w3.drewN n) (HO3.out.move fun _ _ => rfl) (B := g3) (i := F) rfl y
          rw [List.set_append_right _ _ (by rw [HPF.out]; exact Nat.le_refl _), HPF.out, Nat.sub_self] at h1
          exact ⟨h1, (below_drewN HB3.out n).setCell hgb3 _⟩
        have hF3 : (F : Int) < (F : Int) + 1 := by omega
        have hwy : IntKind.u8.wrap y = y := by rw [IntKind.wrap_u8]; omega
        have hwk : IntKind.i64.wrap (k : Int) = k := by rw [IntKind.wrap_i64]; omega
        clear ho3 hgr3
        go_wp2
        go_region
        go_wp2
        go_roundw
        case rel => exact ⟨k + 1, by omega, by go_num, by show OB _ _ _ _; rw [HPN.out]; exact (HNX.out 1).1, (HNX.out 1).2⟩
        case measure => simp [intOf]; omega
      · have hPF : P.length = F + 1 := by rw [HPL.out, HF.out]; have := HSS.out; omega
        have HPF := hide hPF
        obtain ⟨x, hx1, hx2, hx3, hx4⟩ := HPS.out.2 hS0
        have HPN := hide hx2
        obtain ⟨g3, p3, hv3, hgb3, hg3⟩ := World.ownsRow.form HO.out (by rw [hPF]; omega)
        rw [hPF] at hv3
        subst hv3
        have hx : wr.cell? ⟨g3, F, none⟩ = some (.int .u8 x) := by
          rw [HO.out.get rfl (i := F) (by rw [hPF]; omega)]
          rw [List.getD, hx1]
          rfl
        have hxf : wr.frozen? ⟨g3, F, none⟩ = false := HO.out.free rfl F
        obtain ⟨z, HZ⟩ : ∃ z, Hid (z = x + y * 2 ^ S) := ⟨_, rfl⟩
        have hwz : IntKind.u8.wrap (x + y * 2 ^ S) = z := by rw [IntKind.wrap_u8, HZ.out]; omega
        rw [← HZ.out] at HPN hx4
        have HNX : Hid (∀ n, OB ((wr.drewN n).setCell ⟨g3, F, none⟩ (.int .u8 z)) w.heap.size (.slice (some ⟨g3, 0, none⟩) (F + 1) p3) (P.set F z) ∧ Below w.heap.size w ((wr.drewN n).setCell ⟨g3, F, none⟩ (.int .u8 z))) := fun n =>
          ⟨OB.set (w := wr.drewN n) (HO.out.move fun _ _ => rfl) (B := g3) (i := F) rfl z, (below_drewN HB.out n).setCell hgb3 _⟩
        have hF3 : (F : Int) < (F : Int) + 1 := by omega
        have hS0' : ((S : Int) == 0) = false := by simp; omega
        have hwk : IntKind.i64.wrap (k : Int) = k := by rw [IntKind.wrap_i64]; omega
        clear hPF hx2 hx1 hyS hpp h27
        go_wp2
        go_region
        go_wp2
        go_roundw
        case rel => exact ⟨k + 1, by omega, by go_num, by show OB _ _ _ _; rw [HPN.out]; exact (HNX.out 1).1, (HNX.out 1).2⟩
        case measure => simp [intOf]; omega
    · obtain rfl : k = row.length := by omega
      have hlt' : ¬ (row.length : Int) < (row.length : Int) := by omega
      have HT : Hid (OB wr w.heap.size u3 (pack row)) := by have := HO.out; rwa [List.take_of_length_le (Nat.le_refl _)] at this
      clear HO
      obtain ⟨a1, p1, rfl⟩ := HT.out.shape
      go_wp2
      go_ret
      exact ⟨_, _, rfl, HT.out, HB.out⟩
end Go.Proofs.YtiabhmdefaabgacGreatDoor

namespace Go.Proofs.YtiabhmdefaabgacGreatDoor
open Go.RowKit Go.Maps
set_option maxRecDepth 20000

/-- A writer of the document's. -/
def tx (g : Nat) (row : List Int) : Thing := ⟨fun w K => Wx w K g row, fun h a b => h.far a b, fun h => h.sup⟩

theorem hxnew {W w : World} {xs : List ((Nat → Nat) × Thing)} (H : Herd W w xs) : Calls Tryz.prog 16 #[] w fun e w' => ∃ g K, e = .returned (.pointer (some ⟨g, 0, none⟩)) ∧ Herd W w' (xs ++ [(K, tx g [])]) := by
  refine (xnew_any w).mono ?_
  rintro e w1 ⟨g, K, rfl, hW, hn, hb⟩
  exact ⟨g, K, rfl, H.push hb hW hn⟩

theorem hxput {W w : World} {xs : List ((Nat → Nat) × Thing)} (H : Herd W w xs) (i : Nat) {K : Nat → Nat} {g : Nat} {row : List Int} (hi : xs[i]? = some (K, tx g row)) (v n : Int) (hv : 0 ≤ v) (hv1 : v < 4294967296) :
    Calls Tryz.prog 18 #[.pointer (some ⟨g, 0, none⟩), .int .u32 v, .int .i64 n] w fun e w' => e = .returned (.int .i64 (putE row v n)) ∧ ∃ K', Herd W w' (xs.set i (K', tx g (putRow row v n))) := by
  have hw : Wx w K g row := H.rep i _ hi
  refine (xput_any hw v n hv hv1).mono ?_
  rintro e w1 ⟨rfl, K', h1, h2⟩
  exact ⟨rfl, K', H.op i hi (x' := tx g (putRow row v n)) h1 h2⟩

theorem hxlen {W w : World} {xs : List ((Nat → Nat) × Thing)} (H : Herd W w xs) (i : Nat) {K : Nat → Nat} {g : Nat} {row : List Int} (hi : xs[i]? = some (K, tx g row)) :
    Calls Tryz.prog 11 #[.pointer (some ⟨g, 0, none⟩)] w fun e w' => e = .returned (.int .i64 row.length) ∧ Herd W w' xs := by
  have hw : Wx w K g row := H.rep i _ hi
  refine (xlen_any hw).mono ?_
  rintro e w1 ⟨rfl, rfl⟩
  exact ⟨rfl, H⟩

theorem hxbytes {W w : World} {xs : List ((Nat → Nat) × Thing)} (H : Herd W w xs) (i : Nat) {K : Nat → Nat} {g : Nat} {row : List Int} (hi : xs[i]? = some (K, tx g row)) :
    Calls Tryz.prog 14 #[.pointer (some ⟨g, 0, none⟩)] w fun e w' => ∃ a c K', e = .returned (.slice a (pack row).length c) ∧ Herd W w' (xs ++ [(K', tl (.slice a (pack row).length c) (pack row))]) := by
  have hw : Wx w K g row := H.rep i _ hi
  refine (xbytes_any hw).mono ?_
  rintro e w1 ⟨a, c, rfl, h1, h2⟩
  obtain ⟨K', h3⟩ := H.list h2 h1
  exact ⟨a, c, K', rfl, h3⟩

end Go.Proofs.YtiabhmdefaabgacGreatDoor

