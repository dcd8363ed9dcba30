import Derived.Test.YtfoglaajnlbnbaaGreatDoorG27Vd2
import Derived.Test.YtfoglaajnlbnbaaGreatDoorG30HerdJ
import Derived.Test.YtfoglaajnlbnbaaGreatDoorG26Dcd
import Derived.Test.YtfoglaajnlbnbaaGreatDoorG20Chk
namespace Go.Proofs.YtfoglaajnlbnbaaGreatDoor
open Go.RowKit Go.Maps
set_option maxRecDepth 20000

theorem WV.snoc {T : Nat} {rest : List Value} {w W w6 : World} {K : Nat → Nat} {g : Nat} {v v' : Value} {d : List Int} {q : Int} {o : Obj} (h : WV T rest w K g v d) (hW : W.heap = (w.alloc o).heap) (h1 : W.os = w.os) (h2 : W.tape = w.tape) (h3 : W.output = w.output) (ho : OB w6 0 v' (d ++ [q])) (hg : Grew W w6 v v') :
    ∃ K', WV T rest (w6.setCell ⟨g, 0, none⟩ v') K' g v' (d ++ [q]) ∧ Fr K K' w (w6.setCell ⟨g, 0, none⟩ v') := by
  have hgr : w.grownBy W v.ownBlock := ⟨h1, h2, h3, by rw [hW, size_alloc']; omega, fun k hk _ => by rw [hW]; exact Below.heap_alloc _ _ k hk⟩
  refine h.put (hgr.trans hg.by) ho ?_
  rcases hg.at with e | e
  · exact .inr (fun k hk => by rw [e, hW, size_alloc'] at hk; cases hk; omega)
  · exact .inl e

theorem WV.alloc1 {T : Nat} {rest : List Value} {w : World} {K : Nat → Nat} {g : Nat} {v : Value} {d : List Int} (h : WV T rest w K g v d) (q : Int) :
    (w.alloc (.cells #[.int .u8 q] 5)).cell? ⟨g, 0, none⟩ = some v ∧ (∀ W : World, W.heap = (w.alloc (.cells #[.int .u8 q] 5)).heap → OB W 0 v d) ∧
    (∀ W : World, W.heap = (w.alloc (.cells #[.int .u8 q] 5)).heap → Src Tryz.prog 1 28 (.slice (some ⟨w.heap.size, 0, none⟩) 1 1) ([q] : List Int).length (([q] : List Int).map (Value.int .u8)) W) ∧
    (∀ (W w6 : World) (u : Value), W.heap = (w.alloc (.cells #[.int .u8 q] 5)).heap → Grew W w6 v u → w6.cell? ⟨g, 0, none⟩ = some v ∧ w6.frozen? ⟨g, 0, none⟩ = false) := by
  have hgl := h.lt
  refine ⟨?_, fun W hW => OB.move (w := w) h.o fun x hx => by rw [hW]; exact Below.heap_alloc _ _ x (h.o.lt x hx).2, fun W hW => ((built_sb w [q] (by unfold maxLen; simp)).heap hW).src, fun W w6 u hW hg => ?_⟩
  · rw [((Below.refl w.heap.size w).alloc (Nat.le_refl _) _).cell hgl]; exact h.cell 0
  · have e1 : w6.heap[g]? = w.heap[g]? := (hg.by.block g (by rw [hW, size_alloc']; omega) (fun e => h.ng e.symm)).trans (by rw [hW]; exact Below.heap_alloc _ _ g hgl)
    have e2 := e1.trans h.s
    exact ⟨by simp [World.cell?, e2], by simp [World.frozen?, e2]⟩

end Go.Proofs.YtfoglaajnlbnbaaGreatDoor

namespace Go.Proofs.YtfoglaajnlbnbaaGreatDoor
open Go.RowKit Go.Maps
set_option maxRecDepth 20000

def Wx (w : World) (K : Nat → Nat) (g : Nat) (row : List Int) : Prop := ∃ v, WV 84 [] w K g v row ∧ Bit row ∧ row.length ≤ 268435456

theorem Wx.far {w w' : World} {K : Nat → Nat} {g : Nat} {row : List Int} (h : Wx w K g row) (hsz : w.heap.size ≤ w'.heap.size) (hb : ∀ k, K k ≠ 0 → w'.heap[k]? = w.heap[k]?) : Wx w' K g row := by
  obtain ⟨v, h1, h2⟩ := h
  exact ⟨v, h1.far hsz hb, h2⟩

theorem Wx.drewN {w : World} {K : Nat → Nat} {g : Nat} {row : List Int} (h : Wx w K g row) (n : Nat) : Wx (w.drewN n) K g row := h.far (Nat.le_refl _) (fun _ _ => rfl)

theorem Wx.sup {w : World} {K : Nat → Nat} {g : Nat} {row : List Int} (h : Wx w K g row) : ∀ k, K k ≠ 0 → k < w.heap.size := by
  obtain ⟨_, h, _⟩ := h
  exact h.sup

def MadeX (w : World) (e : Ending) (w' : World) : Prop := ∃ g K, e = .returned (.pointer (some ⟨g, 0, none⟩)) ∧ Wx w' K g [] ∧ (∀ k, K k ≠ 0 → w.heap.size ≤ k) ∧ Below w.heap.size w w'

theorem xnew_any (w : World) : Calls Tryz.prog 15 #[] w fun e w' => MadeX w e w' := by
  go_enter Tryz.func15, Tryz.ntmps15
  go_wp2
  go_ret
  refine ⟨_, fun k => if k = w.heap.size then 1 else 0, rfl, ⟨.slice none 0 0, ⟨heap_alloc_new w _, by simp, World.ownsRow_nil _ _ _ _, (fun k hk => by simp [Value.ownBlock] at hk), fun k hk => ?_⟩, bit_nil, by simp⟩, fun k hk => ?_, (Below.refl _ _).alloc (Nat.le_refl _) _⟩
  · by_cases e : k = w.heap.size
    · rw [e, size_alloc']; omega
    · simp [e] at hk
  · by_cases e : k = w.heap.size
    · omega
    · simp [e] at hk

theorem xlen_any {w : World} {K : Nat → Nat} {g : Nat} {row : List Int} (h : Wx w K g row) :
    Calls Tryz.prog 22 #[.pointer (some ⟨g, 0, none⟩)] w fun e w' => e = .returned (.int .i64 row.length) ∧ w' = w := by
  obtain ⟨v, h1, -⟩ := h
  have c0 : w.cell? ⟨g, 0, none⟩ = some v := h1.cell 0
  obtain ⟨a, c, rfl⟩ := h1.o.shape
  clear h1
  go_enter Tryz.func22, Tryz.ntmps22
  go_wp2
  go_ret
  exact ⟨rfl, rfl⟩

def Lay (w : World) (K : Nat → Nat) (g : Nat) (row : List Int) (wr : World) : Prop := ∃ K1 v1, WV 84 [] wr K1 g v1 row ∧ Fr K K1 w wr

theorem Lay.snoc {w wr W w6 : World} {K K1 : Nat → Nat} {g : Nat} {v1 v6 : Value} {row : List Int} {q : Int} {o : Obj} (hW : WV 84 [] wr K1 g v1 row) (hF : Fr K K1 w wr) (e : W.heap = (wr.alloc o).heap) (h1 : W.os = wr.os) (h2 : W.tape = wr.tape) (h3 : W.output = wr.output) (ho : OB w6 0 v6 (row ++ [q])) (hg : Grew W w6 v1 v6) : Lay w K g (row ++ [q]) (w6.setCell ⟨g, 0, none⟩ v6) := by
  obtain ⟨K', n1, n2⟩ := hW.snoc e h1 h2 h3 ho hg
  exact ⟨K', v6, n1, hF.trans n2⟩

set_option maxHeartbeats 2000000 in
theorem xput_any {w : World} {K : Nat → Nat} {g : Nat} {row : List Int} (h : Wx w K g row) (v n : Int) (hv : 0 ≤ v) (hv1 : v < 4294967296) :
    Calls Tryz.prog 18 #[.pointer (some ⟨g, 0, none⟩), .int .u32 v, .int .i64 n] w fun e w' => e = .returned (.int .i64 (putE row v n)) ∧ ∃ K', Wx w' K' g (putRow row v n) ∧ Fr K K' w w' := by
  have H := hide h
  obtain ⟨u, h1, h2, h3⟩ := h
  have c0 : w.cell? ⟨g, 0, none⟩ = some u := h1.cell 0
  obtain ⟨a, c, rfl⟩ := h1.o.shape
  have HW := hide h1
  have HBT := hide h2
  clear h1 h2
  by_cases hc : Cnt n
  case neg =>
    have HE : Hid (putE row v n = 1 ∧ putRow row v n = row) := ⟨if_neg fun h => hc h.1.1, if_neg fun h => hc h.1.1⟩
    by_cases h0 : n < 0
    · clear hc
      go_enter Tryz.func18, Tryz.ntmps18
      go_wp2
      go_ret
      rw [HE.out.1, HE.out.2]
      exact ⟨rfl, K, H.out, Fr.refl _ _⟩
    · have h32 : 32 < n := by unfold Cnt at hc; omega
      clear hc
      go_enter Tryz.func18, Tryz.ntmps18
      go_wp2
      go_ret
      rw [HE.out.1, HE.out.2]
      exact ⟨rfl, K, H.out, Fr.refl _ _⟩
  case pos =>
  have HC := hide hc
  obtain ⟨n0, n1⟩ := hc
  obtain ⟨m, rfl⟩ : ∃ m : Nat, n = m := ⟨n.toNat, by omega⟩
  by_cases hf : v < 2 ^ m
  case neg =>
    have HE : Hid (putE row v m = 1 ∧ putRow row v m = row) := ⟨if_neg fun h => hf (by simpa using h.1.2), if_neg fun h => hf (by simpa using h.1.2)⟩
    have HD : Hid (decide (v < 2 ^ m) = false) := decide_eq_false hf
    clear hf
    go_enter Tryz.func18, Tryz.ntmps18
    go_wp2_with fail
    refine (below_any v m (by omega) hv hv1 _).mono ?_
    rintro e wx ⟨rfl, hwx⟩
    subst hwx
    rw [HD.out]
    go_wp2
    go_ret
    rw [HE.out.1, HE.out.2]
    exact ⟨rfl, K, H.out, Fr.refl _ _⟩
  case pos =>
  have HD : Hid (decide (v < 2 ^ m) = true) := decide_eq_true hf
  by_cases hr : (row.length : Int) + m ≤ 268435456
  case neg =>
    have HE : Hid (putE row v m = 1 ∧ putRow row v m = row) := ⟨if_neg fun h => hr h.2, if_neg fun h => hr h.2⟩
    clear hf
    go_enter Tryz.func18, Tryz.ntmps18
    go_wp2_with fail
    refine (below_any v m (by omega) hv hv1 _).mono ?_
    rintro e wx ⟨rfl, hwx⟩
    subst hwx
    rw [HD.out]
    go_wp2
    go_ret
    rw [HE.out.1, HE.out.2]
    exact ⟨rfl, K, H.out, Fr.refl _ _⟩
  case pos =>
    have hok : putOk row v m := ⟨⟨HC.out, by simpa using hf⟩, hr⟩
    have HE : Hid (putE row v m = 0 ∧ putRow row v m = row ++ bts v m) := putE_ok hok
    clear hf hok
    go_enter Tryz.func18, Tryz.ntmps18
    go_wp2_with fail
    refine (below_any v m (by omega) hv hv1 _).mono ?_
    rintro e wx ⟨rfl, hwx⟩
    subst hwx
    rw [HD.out]
    go_wp2
    go_loopw [8] (fun i wr => ∃ k : Nat, k ≤ m ∧ i = .int .i64 k ∧ Hid (Lay wx K g (row ++ bts v k) wr)) (fun i _ => m - (intOf i).toNat)
    case atStart => exact ⟨0, Nat.zero_le _, rfl, K, _, by simpa [bts] using HW.out, Fr.refl _ _⟩
    case round =>
      clear c0
      obtain ⟨k, hk, rfl, HQ⟩ := hrel
      obtain ⟨K1, v1, hW, hF⟩ := HQ.out
      have HW1 := hide hW
      have HF1 := hide hF
      clear hW hF HQ
      by_cases hlt : k < m
      · have hlt' : (k : Int) < (m : Int) := by omega
        obtain ⟨D, HDd⟩ : ∃ D, Hid (D = row ++ bts v k) := ⟨_, rfl⟩
        rw [← HDd.out] at HW1
        have hDl : D.length ≤ 268435456 := by rw [HDd.out, List.length_append, length_bts]; omega
        obtain ⟨q, HQq⟩ : ∃ q, Hid (q = v / 2 ^ k % 2) := ⟨_, rfl⟩
        have HS : Hid (row ++ bts v (k + 1) = D ++ [q]) := by show _ = _; rw [bts_snoc, ← List.append_assoc, HDd.out, HQq.out]
        go_wp2_with fail
        refine (bit_any v k (by omega) hv hv1 _).mono ?_
        rintro e wy ⟨rfl, hwy⟩
        subst hwy
        rw [← HQq.out]
        obtain ⟨a1, p1, hv'⟩ := HW1.out.o.shape
        subst hv'
        have k0 : wy.cell? ⟨g, 0, none⟩ = some (.slice a1 D.length p1) := HW1.out.cell 0
        obtain ⟨k1, r1, r2, r3⟩ := HW1.out.alloc1 q
        have HROW := hide r1
        have HSRC := hide r2
        have HG6 := hide r3
        have HLEN : Hid (D.length + ([q] : List Int).length ≤ 140737488355328) := by show _ ≤ _; simp; omega
        clear r1 r2 r3
        go_wp2_with (at_builtin; refine wpList_app rfl _ _ 28 rfl 0 _ _ D [q] rfl (HROW.out _ rfl) rfl (HSRC.out _ rfl) HLEN.out (Nat.zero_le _) ?_)
        intro v6 w6 ho6 hg6
        obtain ⟨t0, tf⟩ := HG6.out _ w6 _ rfl hg6
        have HNX : Hid (Lay wx K g (row ++ bts v (k + 1)) (w6.setCell ⟨g, 0, none⟩ v6)) := by
          rw [HS.out]
          exact Lay.snoc HW1.out HF1.out rfl rfl rfl rfl ho6 hg6
        obtain ⟨a6, p6, rfl⟩ := ho6.shape
        clear ho6 hg6 HROW HSRC HG6 k1
        go_wp2
        go_roundw
        case rel => exact ⟨k + 1, by omega, by go_num, by show Lay _ _ _ _ _; simpa using HNX.out⟩
        case measure => simp [intOf]; omega
      · obtain rfl : k = m := by omega
        have hlt' : ¬ (k : Int) < (k : Int) := by omega
        have HFIN : Hid (∃ K', Wx wr K' g (row ++ bts v k) ∧ Fr K K' wx wr) := ⟨K1, ⟨v1, HW1.out, HBT.out.append (bit_bts _ _), by rw [List.length_append, length_bts]; omega⟩, HF1.out⟩
        go_wp2
        go_ret
        rw [HE.out.1, HE.out.2]
        exact ⟨rfl, HFIN.out⟩

set_option maxHeartbeats 2000000 in
theorem xalign_any {w : World} {K : Nat → Nat} {g : Nat} {row : List Int} (h : Wx w K g row) :
    Calls Tryz.prog 76 #[.pointer (some ⟨g, 0, none⟩)] w fun e w' => e = .returned (.tuple #[]) ∧ ∃ K', Wx w' K' g (pad row) ∧ Fr K K' w w' := by
  obtain ⟨u, h1, h2, h3⟩ := h
  have HW := hide h1
  have HBT := hide h2
  clear h1 h2
  go_enter Tryz.func76, Tryz.ntmps76
  go_wp2
  go_loopw [] (fun wr => Hid (∃ j : Nat, row.length + j ≤ (row.length + 7) / 8 * 8 ∧ Lay w K g (row ++ List.replicate j 0) wr)) (fun wr => (row.length + 7) / 8 * 8 - (match wr.cell? ⟨g, 0, none⟩ with | some (.slice _ n _) => n | _ => 0))
  case atStart => exact ⟨0, by omega, K, _, by simpa using HW.out, Fr.refl _ _⟩
  case round =>
    obtain ⟨j, hj, K1, v1, hW, hF⟩ := hrel.out
    have HW1 := hide hW
    have HF1 := hide hF
    clear hW hF hrel
    obtain ⟨D, HDd⟩ : ∃ D : List Int, Hid (D = row ++ List.replicate j 0) := ⟨row ++ List.replicate j 0, rfl⟩
    rw [← HDd.out] at HW1
    have hDl : D.length = row.length + j := by rw [HDd.out, List.length_append, List.length_replicate]
    have HDl := hide hDl
    have hDb : D.length ≤ 268435456 := by omega
    obtain ⟨a1, p1, hv'⟩ := HW1.out.o.shape
    subst hv'
    have k0 : wr.cell? ⟨g, 0, none⟩ = some (.slice a1 D.length p1) := HW1.out.cell 0
    by_cases h8 : D.length % 8 = 0
    · have h8' : (D.length : Int) % 8 = 0 := by omega
      have HFIN : Hid (∃ K', Wx wr K' g (pad row) ∧ Fr K K' w wr) := by
        have e : pad row = D := by rw [HDd.out]; unfold pad; congr 2; omega
        refine ⟨K1, ⟨_, by rw [e]; exact HW1.out, bit_pad HBT.out, top_pad h3⟩, HF1.out⟩
      clear hDl
      go_wp2
      (try simp only [Exit.inBlock, Exit.then]); refine bodyPost_end (results_none rfl _ _ _) rfl ?_
      exact ⟨rfl, HFIN.out⟩
    · have h8' : ((D.length : Int) % 8 == 0) = false := by simp; omega
      have h8b : ((D.length : Int) % 8 != 0) = true := by simp; omega
      have hj1 : row.length + (j + 1) ≤ (row.length + 7) / 8 * 8 := by omega
      obtain ⟨k1, r1, r2, r3⟩ := HW1.out.alloc1 0
      have HROW := hide r1
      have HSRC := hide r2
      have HG6 := hide r3
      have HLEN : Hid (D.length + ([0] : List Int).length ≤ 140737488355328) := by show _ ≤ _; simp; omega
      clear r1 r2 r3 hDl
      go_wp2_with (at_builtin; refine wpList_app rfl _ _ 28 rfl 0 _ _ D [0] rfl (HROW.out _ rfl) rfl (HSRC.out _ rfl) HLEN.out (Nat.zero_le _) ?_)
      intro v6 w6 ho6 hg6
      obtain ⟨t0, tf⟩ := HG6.out _ w6 _ rfl hg6
      have HNX : Hid (Lay w K g (row ++ List.replicate (j + 1) 0) (w6.setCell ⟨g, 0, none⟩ v6)) := by
        have e : row ++ List.replicate (j + 1) 0 = D ++ [0] := by rw [HDd.out, List.replicate_succ', List.append_assoc]
        rw [e]
        exact Lay.snoc HW1.out HF1.out rfl rfl rfl rfl ho6 hg6
      obtain ⟨a6, p6, hv6⟩ := ho6.shape
      have HMS : Hid ((row.length + 7) / 8 * 8 - (match (w6.setCell ⟨g, 0, none⟩ v6).cell? ⟨g, 0, none⟩ with | some (.slice _ n _) => n | _ => 0) < (row.length + 7) / 8 * 8 - (match wr.cell? ⟨g, 0, none⟩ with | some (.slice _ n _) => n | _ => 0)) := by
        obtain ⟨K2, v2, z1, _⟩ := HNX.out
        have z2 : (w6.setCell ⟨g, 0, none⟩ v6).cell? ⟨g, 0, none⟩ = some v6 := by
          exact World.cell?_setCell_same _ _ _ t0
        show _ < _
        rw [z2, k0, hv6]
        simp only [List.length_append, List.length_singleton]
        have := HDl.out
        omega
      subst hv6
      clear ho6 hg6 HROW HSRC HG6 k1
      go_wp2
      go_roundw
      case rel => exact ⟨j + 1, hj1, by show Lay _ _ _ _ _; simpa using HNX.out⟩
      case measure => simpa using HMS.out
end Go.Proofs.YtfoglaajnlbnbaaGreatDoor

namespace Go.Proofs.YtfoglaajnlbnbaaGreatDoor
open Go.RowKit Go.Maps
set_option maxRecDepth 20000

set_option maxHeartbeats 4000000 in
theorem xraw_any {w : World} {K : Nat → Nat} {g : Nat} {row : List Int} (h : Wx w K g row) (u : Value) (l : List Int) (hB : Byt l) (HS0 : ∀ wr K1, Fr K K1 w wr → SB wr u l) (hl63 : l.length ≤ 140737488351232) :
    Calls Tryz.prog 77 #[.pointer (some ⟨g, 0, none⟩), u] w fun e w' => e = .returned (.int .i64 (rawE row l)) ∧ ∃ K', Wx w' K' g (rawRow row l) ∧ Fr K K' w w' := by
  have H := hide h
  obtain ⟨uv, h1, h2, h3⟩ := h
  have c0 : w.cell? ⟨g, 0, none⟩ = some uv := h1.cell 0
  obtain ⟨a, c, rfl⟩ := h1.o.shape
  have HW := hide h1
  have HBT := hide h2
  have HS := hide HS0
  have HBy := hide hB
  obtain ⟨ua, uc, hu⟩ := (HS0 w K (Fr.refl _ _)).len
  subst hu
  obtain ⟨hucap1, hucap2⟩ := (HS0 w K (Fr.refl _ _)).cap
  clear h1 h2 HS0 hB
  by_cases hbig : 33554432 < l.length
  · have HE : Hid (rawE row l = 1 ∧ rawRow row l = row) := ⟨if_pos (by omega), if_pos (by omega)⟩
    have hbig' : (33554432 : Int) < l.length := by omega
    go_enter Tryz.func77, Tryz.ntmps77
    go_wp2
    go_ret
    rw [HE.out.1, HE.out.2]
    exact ⟨rfl, K, H.out, Fr.refl _ _⟩
  have hbig' : (l.length : Int) ≤ 33554432 := by omega
  by_cases hr : 268435456 < row.length + 8 * l.length
  · have HE : Hid (rawE row l = 1 ∧ rawRow row l = row) := ⟨if_pos hr, if_pos hr⟩
    have hr' : (268435456 : Int) < (row.length : Int) + 8 * l.length := by omega
    clear hr
    go_enter Tryz.func77, Tryz.ntmps77
    go_wp2
    go_ret
    rw [HE.out.1, HE.out.2]
    exact ⟨rfl, K, H.out, Fr.refl _ _⟩
  have hr' : (row.length : Int) + 8 * l.length ≤ 268435456 := by omega
  by_cases h8 : row.length % 8 ≠ 0
  · have HE : Hid (rawE row l = 31 ∧ rawRow row l = row) := by
      unfold rawE rawRow
      rw [if_neg hr, if_neg hr, if_pos h8, if_pos h8]
      exact ⟨rfl, rfl⟩
    have h8' : ((row.length : Int) % 8 != 0) = true := by simp; omega
    have h8b : ((row.length : Int) % 8 == 0) = false := by simp; omega
    clear hr
    go_enter Tryz.func77, Tryz.ntmps77
    go_wp2
    go_ret
    rw [HE.out.1, HE.out.2]
    exact ⟨rfl, K, H.out, Fr.refl _ _⟩
  have HE : Hid (rawE row l = 0 ∧ rawRow row l = row ++ unpack l) := by
    unfold rawE rawRow
    rw [if_neg hr, if_neg hr, if_neg h8, if_neg h8]
    exact ⟨rfl, rfl⟩
  have h8' : (row.length : Int) % 8 = 0 := by omega
  obtain ⟨U, HU⟩ : ∃ U, Hid (U = unpack l) := ⟨_, rfl⟩
  have HUl : Hid (U.length = 8 * l.length) := by show _ = _; rw [HU.out, length_unpack]
  rw [← HU.out] at HE
  clear hr h8
  go_enter Tryz.func77, Tryz.ntmps77
  go_wp2
  clear h8'
  go_loopw [5] (fun i wr => ∃ k : Nat, k ≤ l.length ∧ i = .int .i64 k ∧ Hid (Lay w K g (row ++ U.take (8 * k)) wr)) (fun i _ => l.length - (intOf i).toNat)
  case atStart => exact ⟨0, Nat.zero_le _, rfl, K, _, by simpa using HW.out, Fr.refl _ _⟩
  case round =>
    clear c0
    obtain ⟨k, hk, rfl, HQ⟩ := hrel
    by_cases hlt : k < l.length
    · have hlt' : (k : Int) < (l.length : Int) := by omega
      go_wp2
      go_loopw [6] (fun i wr => ∃ j : Nat, j ≤ 8 ∧ i = .int .i64 j ∧ Hid (Lay w K g (row ++ U.take (8 * k + j)) wr)) (fun i _ => 8 - (intOf i).toNat)
      case atStart => exact ⟨0, by omega, rfl, HQ.out⟩
      case round =>
        clear HQ
        obtain ⟨j, hj, rfl, HQ⟩ := hrel
        obtain ⟨K1, v1, hW, hF⟩ := HQ.out
        have HW1 := hide hW
        have HF1 := hide hF
        have hsb := HS.out wr K1 hF
        clear hW hF HQ
        by_cases hj8 : j < 8
        · have hj8' : (j : Int) < 8 := by omega
          obtain ⟨x, hx⟩ : ∃ x, l[k]? = some x := ⟨l[k], by simp [hlt]⟩
          have hbit := unpack_get hx hj8
          rw [← HU.out] at hbit
          obtain ⟨b, o, hao, hc⟩ := hsb.byte (Below.refl _ _) hlt
          have hxd : l.getD k 0 = x := by rw [List.getD, hx]; rfl
          rw [hxd] at hc
          obtain ⟨hx0, hx1⟩ := HBy.out.get hx
          subst hao
          have HTO := hide (take_one hbit)
          obtain ⟨q, HQ⟩ : ∃ q, Hid (q = x / 2 ^ j % 2) := ⟨_, rfl⟩
          rw [← HQ.out] at HTO
          obtain ⟨D, HD⟩ : ∃ D, Hid (D = row ++ U.take (8 * k + j)) := ⟨_, rfl⟩
          have hDl : D.length ≤ 268435456 := by rw [HD.out, List.length_append, List.length_take, HUl.out]; omega
          rw [← HD.out] at HW1
          clear hbit hxd hx hsb
          go_wp2_with fail
          refine (bit_any x j (by omega) hx0 (by omega) _).mono ?_
          rintro e wx ⟨rfl, hwx⟩
          subst hwx
          rw [← HQ.out]
          obtain ⟨a1, p1, hv⟩ := HW1.out.o.shape
          subst hv
          have c0 : wx.cell? ⟨g, 0, none⟩ = some (.slice a1 D.length p1) := HW1.out.cell 0
          obtain ⟨k1, r1, r2, r3⟩ := HW1.out.alloc1 q
          have HROW := hide r1
          have HSRC := hide r2
          have HG6 := hide r3
          have HLEN : Hid (D.length + ([q] : List Int).length ≤ 140737488355328) := by show _ ≤ _; simp; omega
          clear r1 r2 r3
          go_wp2_with (at_builtin; refine wpList_app rfl _ _ 28 rfl 0 _ _ D [q] rfl (HROW.out _ rfl) rfl (HSRC.out _ rfl) HLEN.out (Nat.zero_le _) ?_)
          intro v6 w6 ho6 hg6
          obtain ⟨t0, tf⟩ := HG6.out _ w6 _ rfl hg6
          have HNX : Hid (Lay w K g (row ++ U.take (8 * k + (j + 1))) (w6.setCell ⟨g, 0, none⟩ v6)) := by
            rw [show 8 * k + (j + 1) = 8 * k + j + 1 by omega, HTO.out, ← List.append_assoc, ← HD.out]
            exact Lay.snoc HW1.out HF1.out rfl rfl rfl rfl ho6 hg6
          obtain ⟨a6, p6, rfl⟩ := ho6.shape
          clear ho6 hg6 HROW HSRC HG6 k1
          go_wp2
          go_roundw
          case rel => exact ⟨j + 1, by omega, by go_num, by show Lay _ _ _ _ _; simpa using HNX.out⟩
          case measure => simp [intOf]; omega
        · obtain rfl : j = 8 := by omega
          clear hsb
          go_wp2
          go_roundw
          case rel => exact ⟨k + 1, by omega, by go_num, K1, v1, by rw [show 8 * (k + 1) = 8 * k + 8 by omega]; exact HW1.out, HF1.out⟩
          case measure => simp [intOf]; omega
    · obtain rfl : k = l.length := by omega
      have hlt' : ¬ (l.length : Int) < (l.length : Int) := by omega
      have HFIN : Hid (∃ K', Wx wr K' g (row ++ U) ∧ Fr K K' w wr) := by
        obtain ⟨K1, v1, hW, hF⟩ := HQ.out
        rw [List.take_of_length_le (by rw [HUl.out]; exact Nat.le_refl _)] at hW
        exact ⟨K1, ⟨v1, hW, HBT.out.append (by rw [HU.out]; exact bit_unpack _), by rw [List.length_append, HUl.out]; omega⟩, hF⟩
      clear HQ
      go_wp2
      go_ret
      rw [HE.out.1, HE.out.2]
      exact ⟨rfl, HFIN.out⟩
end Go.Proofs.YtfoglaajnlbnbaaGreatDoor

namespace Go.Proofs.YtfoglaajnlbnbaaGreatDoor
open Go.RowKit Go.Maps
set_option maxRecDepth 20000

theorem WV.bytes {T : Nat} {rest : List Value} {w : World} {K : Nat → Nat} {g : Nat} {v : Value} {d : List Int} (h : WV T rest w K g v d) : ∃ a c, v = .slice a d.length c ∧ d.length ≤ c ∧ c ≤ 9223372036854775807 ∧ ∀ i, i < d.length → ∃ b, a = some ⟨b, 0, none⟩ ∧ w.cell? ⟨b, i, none⟩ = some (.int .u8 (d.getD i 0)) := by
  obtain ⟨a, c, rfl⟩ := h.o.shape
  obtain ⟨q1, q2⟩ := h.o.sb.cap
  refine ⟨a, c, rfl, q1, q2, fun i hi => ?_⟩
  rcases h.o.2 with ⟨e, h0⟩ | ⟨gb, c', cur, e, _⟩
  · omega
  · simp only [Value.slice.injEq] at e
    obtain ⟨rfl, -, -⟩ := e
    exact ⟨gb, rfl, h.o.get rfl hi⟩

theorem byte_of {row : List Int} (hb : Bit row) {i : Nat} (hi : i < row.length) : row.getD i 0 = 0 ∨ row.getD i 0 = 1 := by
  have : row.getD i 0 = row[i] := by simp [List.getD, hi]
  rw [this]
  exact hb _ (List.getElem_mem _)

theorem OB.set {w : World} {base : Nat} {v : Value} {l : List Int} (h : OB w base v l) {B i : Nat} (hv : v.ownBlock = some B) (z : Int) : OB (w.setCell ⟨B, i, none⟩ (.int .u8 z)) base v (l.set i z) := by
  refine ⟨by simp, ?_⟩
  rcases h.2 with ⟨rfl, _⟩ | ⟨gb, cap, cur, rfl, k1, k2, k3, k4, k5, k6⟩
  · simp [Value.ownBlock] at hv
  · simp [Value.ownBlock] at hv
    subst hv
    refine .inr ⟨gb, cap, cur.setIfInBounds i (.int .u8 z), by simp, k1, heap_setCell_at _ k2, by simpa using k3, k4, by simpa using k5, ?_⟩
    rw [Array.toList_setIfInBounds, List.take_set, List.length_set, k6, List.map_set]

theorem OB.free {w : World} {base : Nat} {v : Value} {l : List Int} (h : OB w base v l) {B : Nat} (hv : v.ownBlock = some B) (i : Nat) : w.frozen? ⟨B, i, none⟩ = false := by
  rcases h.2 with ⟨rfl, _⟩ | ⟨gb, cap, cur, rfl, k1, k2, _⟩
  · simp [Value.ownBlock] at hv
  · simp [Value.ownBlock] at hv
    subst hv
    simp [World.frozen?, k2]

set_option maxHeartbeats 4000000 in
theorem xbytes_any {w : World} {K : Nat → Nat} {g : Nat} {row : List Int} (h : Wx w K g row) :
    Calls Tryz.prog 23 #[.pointer (some ⟨g, 0, none⟩)] w fun e w' => ∃ a c, e = .returned (.slice a (pack row).length c) ∧ OB w' w.heap.size (.slice a (pack row).length c) (pack row) ∧ Below w.heap.size w w' := by
  obtain ⟨uv, h1, h2, h3⟩ := h
  obtain ⟨a, c, hv, q1, q2, q3⟩ := h1.bytes
  subst hv
  have HW := hide h1
  have HBT := hide h2
  have HQ3 := hide q3
  have hgl := h1.lt
  have HC0 : Hid (w.cell? ⟨g, 0, none⟩ = some (.slice a row.length c)) := h1.cell 0
  have c0 := HC0.out
  clear h1 h2 q3
  go_enter Tryz.func23, Tryz.ntmps23
  go_wp2
  go_loopw [3, 4] (fun u i wr => ∃ k : Nat, k ≤ row.length ∧ i = .int .i64 k ∧ Hid (OB wr w.heap.size u (pack (row.take k))) ∧ Hid (Below w.heap.size w wr)) (fun _ i _ => row.length - (intOf i).toNat)
  case atStart => exact ⟨0, Nat.zero_le _, rfl, by show OB _ _ _ _; rw [List.take_zero, pack_nil]; exact World.ownsRow_nil _ _ _ _, Below.refl _ _⟩
  case round =>
    clear c0
    obtain ⟨k, hk, rfl, HO, HB⟩ := hrel
    have k0 : wr.cell? ⟨g, 0, none⟩ = some (.slice a row.length c) := (HB.out.cell hgl).trans HC0.out
    by_cases hlt : k < row.length
    · have hlt' : (k : Int) < (row.length : Int) := by omega
      obtain ⟨b, hb, hcw⟩ := HQ3.out k hlt
      subst hb
      obtain ⟨y, HY⟩ : ∃ y, Hid (y = row.getD k 0) := ⟨_, rfl⟩
      have hyb := byte_of HBT.out hlt
      rw [← HY.out] at hcw hyb
      have hbl := World.block_lt_of_cell? _ _ hcw
      have hc : wr.cell? ⟨b, k, none⟩ = some (.int .u8 y) := (HB.out.cell hbl).trans hcw
      have hy0 : 0 ≤ y := by omega
      have hy1 : y ≤ 1 := by omega
      obtain ⟨F, HF⟩ : ∃ F : Nat, Hid (F = k / 8) := ⟨_, rfl⟩
      obtain ⟨S, HSS⟩ : ∃ S : Nat, Hid (S = k % 8) := ⟨_, rfl⟩
      have hkF : ((k : Int) / 8) = (F : Int) := by rw [HF.out]; omega
      have hkS : ((k : Int) % 8) = (S : Int) := by rw [HSS.out]; omega
      have hS8 : S < 8 := by rw [HSS.out]; omega
      have htl : (row.take k).length = k := by rw [List.length_take]; omega
      have hps := pack_snoc (HBT.out.take k) hyb
      rw [htl, ← HF.out, ← HSS.out] at hps
      have hyt : row[k]? = some y := by rw [HY.out]; simp [List.getD, hlt]
      have hts := take_one hyt
      rw [← hts] at hps
      have hpl := length_pack (HBT.out.take k)
      rw [htl] at hpl
      obtain ⟨P, HP⟩ : ∃ P, Hid (P = pack (row.take k)) := ⟨_, rfl⟩
      rw [← HP.out] at hps hpl HO
      have HPS := hide hps
      have HPL := hide hpl
      have HBs := HB.out.size
      clear hps hts hyt htl hcw hpl
      have hpp := pow_pos S
      have h27 : (2 : Int) ^ S ≤ 2 ^ 7 := pow_le (by omega)
      have hyS : 0 ≤ y * 2 ^ S ∧ y * 2 ^ S ≤ 2 ^ S := by rcases hyb with e | e <;> rw [e] <;> omega
      have hw1 : IntKind.u8.wrap (y * 2 ^ S) = y * 2 ^ S := by rw [IntKind.wrap_u8]; omega
      by_cases hS0 : S = 0
      · subst hS0
        have hPF : P.length = F := by rw [HPL.out, HF.out]; have := HSS.out; omega
        have HPF := hide hPF
        have HPN : Hid (pack (row.take (k + 1)) = P ++ [y]) := HPS.out.1 rfl
        obtain ⟨a1, p1, hu⟩ := HO.out.shape
        rw [hPF] at hu
        subst hu
        have HALC : Hid (OB (wr.alloc (.cells #[.int .u8 0] 5)) w.heap.size (.slice a1 F p1) P) := HO.out.alloc _
        have HSR : Hid (Src Tryz.prog 1 28 (.slice (some ⟨wr.heap.size, 0, none⟩) 1 1) ([0] : List Int).length (([0] : List Int).map (Value.int .u8)) (wr.alloc (.cells #[.int .u8 0] 5))) := (built_sb wr [0] (by unfold maxLen; simp)).src
        clear hPF hyS hpp h27
        go_wp2_with (at_builtin; refine wpList_app rfl _ _ 28 rfl w.heap.size _ _ P [0] rfl HALC.out rfl HSR.out (by rw [HPF.out]; simp; omega) (by simp; omega) ?_)
        intro v3 w3 ho3 hgr3
        have HB3 : Hid (Below w.heap.size w w3) := (HB.out.alloc HBs _).grown hgr3.by (by simp; omega) (fun j hj => by have := HO.out.lt j hj; omega)
        obtain ⟨g3, p3, hv3, hgb3, hg3⟩ := World.ownsRow.form ho3 (by simp)
        rw [List.length_append, HPF.out, List.length_singleton] at hv3
        subst hv3
        have HO3 := hide ho3
        have hx : w3.cell? ⟨g3, F, none⟩ = some (.int .u8 0) := by
          rw [ho3.get rfl (i := F) (by rw [List.length_append, HPF.out]; simp)]
          have : (P ++ [0]).getD F 0 = 0 := by rw [← HPF.out]; simp
          rw [this]
        have hxf : w3.frozen? ⟨g3, F, none⟩ = false := ho3.free rfl F
        have k3 : w3.cell? ⟨g, 0, none⟩ = some (.slice (some ⟨b, 0, none⟩) row.length c) := (HB3.out.cell hgl).trans HC0.out
        have hc3 : w3.cell? ⟨b, k, none⟩ = some (.int .u8 y) := by
          have h0 : w.cell? ⟨b, k, none⟩ = some (.int .u8 y) := by
            obtain ⟨b', e1, e2⟩ := HQ3.out k hlt
            simp only [Option.some.injEq, Addr.mk.injEq, and_true] at e1
            subst e1
            rw [e2, HY.out]
          exact (HB3.out.cell hbl).trans h0
        have HNX : Hid (∀ n, OB ((w3.drewN n).setCell ⟨g3, F, none⟩ (.int .u8 y)) w.heap.size (.slice (some ⟨g3, 0, none⟩) (F + 1) p3) (P ++ [y]) ∧ Below w.heap.size w ((w3.drewN n).setCell ⟨g3, F, none⟩ (.int .u8 y))) := fun n => by
          have h1 := OB.set (w := w3.drewN n) (HO3.out.move fun _ _ => rfl) (B := g3) (i := F) rfl y
          rw [List.set_append_right _ _ (by rw [HPF.out]; exact Nat.le_refl _), HPF.out, Nat.sub_self] at h1
          exact ⟨h1, (below_drewN HB3.out n).setCell hgb3 _⟩
        have hF3 : (F : Int) < (F : Int) + 1 := by omega
        have hwy : IntKind.u8.wrap y = y := by rw [IntKind.wrap_u8]; omega
        have hwk : IntKind.i64.wrap (k : Int) = k := by rw [IntKind.wrap_i64]; omega
        clear ho3 hgr3
        go_wp2
        go_region
        go_wp2
        go_roundw
        case rel => exact ⟨k + 1, by omega, by go_num, by show OB _ _ _ _; rw [HPN.out]; exact (HNX.out 1).1, (HNX.out 1).2⟩
        case measure => simp [intOf]; omega
      · have hPF : P.length = F + 1 := by rw [HPL.out, HF.out]; have := HSS.out; omega
        have HPF := hide hPF
        obtain ⟨x, hx1, hx2, hx3, hx4⟩ := HPS.out.2 hS0
        have HPN := hide hx2
        obtain ⟨g3, p3, hv3, hgb3, hg3⟩ := World.ownsRow.form HO.out (by rw [hPF]; omega)
        rw [hPF] at hv3
        subst hv3
        have hx : wr.cell? ⟨g3, F, none⟩ = some (.int .u8 x) := by
          rw [HO.out.get rfl (i := F) (by rw [hPF]; omega)]
          rw [List.getD, hx1]
          rfl
        have hxf : wr.frozen? ⟨g3, F, none⟩ = false := HO.out.free rfl F
        obtain ⟨z, HZ⟩ : ∃ z, Hid (z = x + y * 2 ^ S) := ⟨_, rfl⟩
        have hwz : IntKind.u8.wrap (x + y * 2 ^ S) = z := by rw [IntKind.wrap_u8, HZ.out]; omega
        rw [← HZ.out] at HPN hx4
        have HNX : Hid (∀ n, OB ((wr.drewN n).setCell ⟨g3, F, none⟩ (.int .u8 z)) w.heap.size (.slice (some ⟨g3, 0, none⟩) (F + 1) p3) (P.set F z) ∧ Below w.heap.size w ((wr.drewN n).setCell ⟨g3, F, none⟩ (.int .u8 z))) := fun n =>
          ⟨OB.set (w := wr.drewN n) (HO.out.move fun _ _ => rfl) (B := g3) (i := F) rfl z, (below_drewN HB.out n).setCell hgb3 _⟩
        have hF3 : (F : Int) < (F : Int) + 1 := by omega
        have hS0' : ((S : Int) == 0) = false := by simp; omega
        have hwk : IntKind.i64.wrap (k : Int) = k := by rw [IntKind.wrap_i64]; omega
        clear hPF hx2 hx1 hyS hpp h27
        go_wp2
        go_region
        go_wp2
        go_roundw
        case rel => exact ⟨k + 1, by omega, by go_num, by show OB _ _ _ _; rw [HPN.out]; exact (HNX.out 1).1, (HNX.out 1).2⟩
        case measure => simp [intOf]; omega
    · obtain rfl : k = row.length := by omega
      have hlt' : ¬ (row.length : Int) < (row.length : Int) := by omega
      have HT : Hid (OB wr w.heap.size u3 (pack row)) := by have := HO.out; rwa [List.take_of_length_le (Nat.le_refl _)] at this
      clear HO
      obtain ⟨a1, p1, rfl⟩ := HT.out.shape
      go_wp2
      go_ret
      exact ⟨_, _, rfl, HT.out, HB.out⟩
end Go.Proofs.YtfoglaajnlbnbaaGreatDoor

namespace Go.Proofs.YtfoglaajnlbnbaaGreatDoor
open Go.RowKit Go.Maps
set_option maxRecDepth 20000

def tx (g : Nat) (row : List Int) : Thing := ⟨fun w K => Wx w K g row, fun h a b => h.far a b, fun h => h.sup⟩

theorem hxnew {W w : World} {xs : List ((Nat → Nat) × Thing)} (H : Herd W w xs) : Calls Tryz.prog 15 #[] w fun e w' => ∃ g K, e = .returned (.pointer (some ⟨g, 0, none⟩)) ∧ Herd W w' (xs ++ [(K, tx g [])]) := by
  refine (xnew_any w).mono ?_
  rintro e w1 ⟨g, K, rfl, hW, hn, hb⟩
  exact ⟨g, K, rfl, H.push hb hW hn⟩

theorem hxput {W w : World} {xs : List ((Nat → Nat) × Thing)} (H : Herd W w xs) (i : Nat) {K : Nat → Nat} {g : Nat} {row : List Int} (hi : xs[i]? = some (K, tx g row)) (v n : Int) (hv : 0 ≤ v) (hv1 : v < 4294967296) :
    Calls Tryz.prog 18 #[.pointer (some ⟨g, 0, none⟩), .int .u32 v, .int .i64 n] w fun e w' => e = .returned (.int .i64 (putE row v n)) ∧ ∃ K', Herd W w' (xs.set i (K', tx g (putRow row v n))) := by
  have hw : Wx w K g row := H.rep i _ hi
  refine (xput_any hw v n hv hv1).mono ?_
  rintro e w1 ⟨rfl, K', h1, h2⟩
  exact ⟨rfl, K', H.op i hi (x' := tx g (putRow row v n)) h1 h2⟩

theorem hxlen {W w : World} {xs : List ((Nat → Nat) × Thing)} (H : Herd W w xs) (i : Nat) {K : Nat → Nat} {g : Nat} {row : List Int} (hi : xs[i]? = some (K, tx g row)) :
    Calls Tryz.prog 22 #[.pointer (some ⟨g, 0, none⟩)] w fun e w' => e = .returned (.int .i64 row.length) ∧ Herd W w' xs := by
  have hw : Wx w K g row := H.rep i _ hi
  refine (xlen_any hw).mono ?_
  rintro e w1 ⟨rfl, rfl⟩
  exact ⟨rfl, H⟩

theorem hxbytes {W w : World} {xs : List ((Nat → Nat) × Thing)} (H : Herd W w xs) (i : Nat) {K : Nat → Nat} {g : Nat} {row : List Int} (hi : xs[i]? = some (K, tx g row)) :
    Calls Tryz.prog 23 #[.pointer (some ⟨g, 0, none⟩)] w fun e w' => ∃ a c K', e = .returned (.slice a (pack row).length c) ∧ Herd W w' (xs ++ [(K', tl (.slice a (pack row).length c) (pack row))]) := by
  have hw : Wx w K g row := H.rep i _ hi
  refine (xbytes_any hw).mono ?_
  rintro e w1 ⟨a, c, rfl, h1, h2⟩
  obtain ⟨K', h3⟩ := H.list h2 h1
  exact ⟨a, c, K', rfl, h3⟩

end Go.Proofs.YtfoglaajnlbnbaaGreatDoor

namespace Go.Proofs.YtfoglaajnlbnbaaGreatDoor
open Go.RowKit Go.Maps
set_option maxRecDepth 20000

theorem xrows_any (n : Nat) (w : World) (hn : n ≤ 15) : Calls Tryz.prog 178 #[.int .i64 n] w fun e w' => e = .returned (.int .i64 ((2 ^ (15 - n) : Nat) : Int)) ∧ w' = w := by
  go_enter Tryz.func178, Tryz.ntmps178
  go_wp2
  go_loopw [3, 4] (fun u i wr => ∃ k : Nat, n ≤ k ∧ k ≤ 15 ∧ i = .int .i64 k ∧ u = .int .i64 ((2 ^ (k - n) : Nat) : Int) ∧ wr = w) (fun _ i _ => 15 - (intOf i).toNat)
  case atStart => exact ⟨n, Nat.le_refl _, hn, rfl, by simp, rfl⟩
  case round =>
    obtain ⟨k, hnk, hk, rfl, rfl, rfl⟩ := hrel
    by_cases hlt : k < 15
    · have hlt' : (k : Int) < 15 := by omega
      have b : 2 ^ (k - n) ≤ 32768 := Nat.pow_le_pow_right (n := 2) (by decide) (show k - n ≤ 15 by omega)
      have HS : Hid (2 ^ (k + 1 - n) = 2 * 2 ^ (k - n)) := by show _ = _; rw [show k + 1 - n = (k - n) + 1 by omega, Nat.pow_succ, Nat.mul_comm]
      obtain ⟨p, HP⟩ : ∃ p : Nat, Hid (p = 2 ^ (k - n)) := ⟨_, rfl⟩
      rw [← HP.out] at b HS ⊢
      go_wp2
      go_roundw
      case rel => exact ⟨k + 1, by omega, by omega, by go_num, by rw [HS.out]; push_cast; rfl, by trivial⟩
      case measure => simp [intOf]; omega
    · obtain rfl : k = 15 := by omega
      have hlt' : ¬ ((15 : Nat) : Int) < 15 := by omega
      go_wp2
      go_ret
      exact ⟨rfl, rfl⟩

theorem usum_succ {l : List Int} {k : Nat} (h : k < l.length) : usum (l.take (k + 1)) = usum (l.take k) + wt (l.getD k 0) ∧ tsum (l.take (k + 1)) = tsum (l.take k) + one (l.getD k 0) := by
  have e : l.getD k 0 = l[k] := by simp [h]
  rw [List.take_succ_eq_append_getElem h, e]
  unfold usum tsum
  rw [List.map_append, List.map_append, List.sum_append, List.sum_append]
  simp

theorem sum_bound {l : List Int} (hl : Lens l) (k : Nat) : usum (l.take k) ≤ 288 * 16384 ∧ tsum (l.take k) ≤ 288 := by
  have h1 : Lens (l.take k) := ⟨by rw [List.length_take]; have := hl.1; omega, fun x hx => hl.2 x (List.mem_of_mem_take hx)⟩
  have h2 := us_bound h1
  rw [us_sum h1.2] at h2
  have h3 := sh_le (l.take k) 16
  rw [sh_sum h1.2] at h3
  exact ⟨h2, Nat.le_trans h3 h1.1⟩

theorem xused_any (v : Value) (l : List Int) (w : World) (h : SI w v l) (hl : Lens l) :
    Calls Tryz.prog 159 #[v] w fun e w' => e = .returned (.tuple #[.int .i64 (usum l), .int .i64 (tsum l)]) ∧ w' = w := by
  have HS := hide h
  have HL := hide hl
  have h288 := hl.1
  obtain ⟨ao, cap, rfl, hlc, hcm⟩ := h.open
  clear h hl
  go_enter Tryz.func159, Tryz.ntmps159
  go_wp2
  go_loopw [4, 5, 6] (fun u t i wr => ∃ k : Nat, k ≤ l.length ∧ i = .int .i64 k ∧ u = .int .i64 (usum (l.take k)) ∧ t = .int .i64 (tsum (l.take k)) ∧ wr = w) (fun _ _ i _ => l.length - (intOf i).toNat)
  case atStart => exact ⟨0, Nat.zero_le _, rfl, rfl, rfl, rfl⟩
  case round =>
    obtain ⟨k, hk, rfl, rfl, rfl, rfl⟩ := hrel
    by_cases hlt : k < l.length
    · have hlt' : (k : Int) < (l.length : Int) := by omega
      obtain ⟨b, o, rfl, hc⟩ := HS.out.get (Below.refl _ _) hlt
      obtain ⟨n, HN⟩ : ∃ n, Hid (ln l k = n) := ⟨_, rfl⟩
      have hn15 : n ≤ 15 := by rw [← HN.out]; exact (HL.out.ln k).2
      have HX := hide (usum_succ hlt)
      rw [(HL.out.ln k).1, HN.out] at hc HX
      have hb := sum_bound HL.out k
      obtain ⟨u, HU⟩ : ∃ u : Nat, Hid (u = usum (l.take k)) := ⟨_, rfl⟩
      obtain ⟨t, HT⟩ : ∃ t : Nat, Hid (t = tsum (l.take k)) := ⟨_, rfl⟩
      rw [← HU.out, ← HT.out] at hb HX ⊢
      obtain ⟨hb1, hb2⟩ := hb
      by_cases h0 : n = 0
      · subst h0
        have HY : Hid (usum (l.take (k + 1)) = u ∧ tsum (l.take (k + 1)) = t) := by
          have := HX.out
          show _ ∧ _
          simpa [wt, one] using this
        clear HX
        go_wp2
        go_roundw
        case rel => exact ⟨k + 1, by omega, by go_num, by rw [HY.out.1], by rw [HY.out.2], by trivial⟩
        case measure => simp [intOf]; omega
      · have h0' : (0 : Int) < n := by omega
        have HY : Hid (usum (l.take (k + 1)) = u + 2 ^ (15 - n) ∧ tsum (l.take (k + 1)) = t + 1) := by
          have := HX.out
          unfold wt one at this
          rw [if_pos h0', if_pos h0'] at this
          exact this
        have b4 : 2 ^ (15 - n) ≤ 32768 := Nat.pow_le_pow_right (n := 2) (by decide) (show 15 - n ≤ 15 by omega)
        clear HX
        go_wp2_with fail
        refine (xrows_any n _ hn15).mono ?_
        rintro e w1 ⟨rfl, rfl⟩
        obtain ⟨p, HP⟩ : ∃ p : Nat, Hid (p = 2 ^ (15 - n)) := ⟨_, rfl⟩
        rw [← HP.out] at b4 HY ⊢
        go_wp2
        go_roundw
        case rel => exact ⟨k + 1, by omega, by go_num, by rw [HY.out.1]; push_cast; rfl, by rw [HY.out.2]; push_cast; rfl, by trivial⟩
        case measure => simp [intOf]; omega
    · obtain rfl : k = l.length := by omega
      have hlt' : ¬ (l.length : Int) < (l.length : Int) := by omega
      rw [List.take_of_length_le (Nat.le_refl _)]
      go_wp2
      go_ret2
      exact ⟨rfl, rfl⟩

theorem xvalid_any (v : Value) (l : List Int) (w : World) (h : SI w v l) :
    Calls Tryz.prog 158 #[v] w fun e w' => e = .returned (.int .i64 (chkE l)) ∧ w' = w := by
  have HS := hide h
  obtain ⟨ao, cap, rfl, hlc, hcm⟩ := h.open
  clear h
  by_cases hlen : 288 < l.length
  · have hlen' : (288 : Int) < l.length := by omega
    have HE : Hid (chkE l = 1) := if_pos hlen
    go_enter Tryz.func158, Tryz.ntmps158
    go_wp2
    go_ret
    rw [HE.out]
    exact ⟨rfl, rfl⟩
  have hlen' : ¬ (288 : Int) < l.length := by omega
  have HNL := hide hlen
  clear hlen
  go_enter Tryz.func158, Tryz.ntmps158
  go_wp2
  go_loopw [3] (fun i wr => ∃ k : Nat, k ≤ l.length ∧ i = .int .i64 k ∧ wr = w ∧ Hid (okTo l k)) (fun i _ => l.length - (intOf i).toNat)
  case atStart => exact ⟨0, Nat.zero_le _, rfl, rfl, fun i hi => by omega⟩
  case round =>
    obtain ⟨k, hk, rfl, rfl, HT⟩ := hrel
    by_cases hlt : k < l.length
    · have hlt' : (k : Int) < (l.length : Int) := by omega
      obtain ⟨b, o, rfl, hc⟩ := HS.out.get (Below.refl _ _) hlt
      obtain ⟨x, HX⟩ : ∃ x, Hid (x = l.getD k 0) := ⟨_, rfl⟩
      rw [← HX.out] at hc
      by_cases hb : 0 ≤ x ∧ x ≤ 15
      · have HN : Hid (okTo l (k + 1)) := okTo_succ HT.out (by rw [← HX.out]; exact hb)
        obtain ⟨b0, b1⟩ := hb
        have b0' : ¬ x < 0 := by omega
        have b1' : ¬ 15 < x := by omega
        clear HT
        go_wp2
        go_roundw
        case rel => exact ⟨k + 1, by omega, by go_num, by trivial, HN⟩
        case measure => simp [intOf]; omega
      · have hn : ¬ Lens l := not_lens (k := k) (by rw [← HX.out]; exact hb)
        have HE : Hid (chkE l = 50) := by show _ = _; unfold chkE; rw [if_neg HNL.out, if_neg hn]
        clear hn
        by_cases b0 : x < 0
        · clear hb
          go_wp2
          go_ret
          rw [HE.out]
          exact ⟨rfl, rfl⟩
        · have b1 : 15 < x := by omega
          clear hb
          go_wp2
          go_ret
          rw [HE.out]
          exact ⟨rfl, rfl⟩
    · obtain rfl : k = l.length := by omega
      have hl : Lens l := okTo_lens HT.out (by have := HNL.out; omega)
      have HE : Hid (chkE l = 0) := by show _ = _; unfold chkE; rw [if_neg HNL.out, if_pos hl]
      have hlt' : ¬ (l.length : Int) < (l.length : Int) := by omega
      clear hl HT
      go_wp2
      go_ret
      rw [HE.out]
      exact ⟨rfl, rfl⟩

theorem xcheck_any (v : Value) (l : List Int) (w : World) (h : SI w v l) :
    Calls Tryz.prog 110 #[v] w fun e w' => e = .returned (.tuple #[.int .i64 (chkS l), .int .i64 (chkE l)]) ∧ w' = w := by
  have HS := hide h
  obtain ⟨ao, cap, rfl, hlc, hcm⟩ := h.open
  clear h
  by_cases h0 : chkE l = 0
  case neg =>
    have h1 : (chkE l == 0) = false := by simpa using h0
    have hn : ¬ Lens l := fun hl => h0 (by unfold chkE; rw [if_neg (by have := hl.1; omega), if_pos hl])
    have HE : Hid (chkS l = 0) := if_neg hn
    obtain ⟨q, HQ⟩ : ∃ q, Hid (q = chkE l) := ⟨_, rfl⟩
    rw [← HQ.out] at h0 h1
    rw [HE.out, ← HQ.out]
    clear hn
    go_enter Tryz.func110, Tryz.ntmps110
    go_wp2_with fail
    refine (xvalid_any _ l _ HS.out).mono ?_
    rintro e w1 ⟨rfl, rfl⟩
    rw [← HQ.out]
    go_wp2
    go_ret2
    exact ⟨rfl, rfl⟩
  obtain ⟨hl, hs⟩ := chkE_zero h0
  have HL := hide hl
  have HQ := hide h0
  have hb := sum_bound hl l.length
  rw [List.take_of_length_le (Nat.le_refl _)] at hb
  obtain ⟨U, HU⟩ : ∃ U : Nat, Hid (U = usum l) := ⟨_, rfl⟩
  obtain ⟨T, HT⟩ : ∃ T : Nat, Hid (T = tsum l) := ⟨_, rfl⟩
  have HSH : Hid (chkS l = if T = 0 then 0 else if T = 1 ∧ U = 16384 then 1 else if 32768 < U then 3 else if U = 32768 then 4 else 2) := by
    show _ = _
    rw [hs, HU.out, HT.out]; rfl
  rw [← HU.out, ← HT.out] at hb
  obtain ⟨hb1, hb2⟩ := hb
  clear hl hs h0
  by_cases c1 : T = 0
  · have HX : Hid (chkS l = 0) := by show _ = _; rw [HSH.out, if_pos c1]
    clear HSH
    subst c1
    go_enter Tryz.func110, Tryz.ntmps110
    go_wp2_with fail
    refine (xvalid_any _ l _ HS.out).mono ?_
    rintro e w1 ⟨rfl, rfl⟩
    rw [HQ.out]
    go_wp2_with fail
    refine (xused_any _ l _ HS.out HL.out).mono ?_
    rintro e w2 ⟨rfl, rfl⟩
    rw [← HU.out, ← HT.out]
    go_wp2
    go_ret2
    rw [HX.out, HQ.out]
    exact ⟨rfl, rfl⟩
  by_cases c2 : T = 1 ∧ U = 16384
  · have HX : Hid (chkS l = 1) := by show _ = _; rw [HSH.out, if_neg c1, if_pos c2]
    clear HSH c1
    obtain ⟨e1, e2⟩ := c2
    subst e1 e2
    go_enter Tryz.func110, Tryz.ntmps110
    go_wp2_with fail
    refine (xvalid_any _ l _ HS.out).mono ?_
    rintro e w1 ⟨rfl, rfl⟩
    rw [HQ.out]
    go_wp2_with fail
    refine (xused_any _ l _ HS.out HL.out).mono ?_
    rintro e w2 ⟨rfl, rfl⟩
    rw [← HU.out, ← HT.out]
    go_wp2
    go_ret2
    rw [HX.out, HQ.out]
    exact ⟨rfl, rfl⟩
  have HX : Hid (chkS l = if 32768 < U then 3 else if U = 32768 then 4 else 2) := by show _ = _; rw [HSH.out, if_neg c1, if_neg c2]
  clear HSH
  have c1' : ((T : Int) == 0) = false := by simp; omega
  by_cases c3 : 32768 < U
  · have HY : Hid (chkS l = 3) := by show _ = _; rw [HX.out, if_pos c3]
    clear HX c2
    by_cases t1 : T = 1
    · subst t1
      have u1 : ((U : Int) == 16384) = false := by simp; omega
      go_enter Tryz.func110, Tryz.ntmps110
      go_wp2_with fail
      refine (xvalid_any _ l _ HS.out).mono ?_
      rintro e w1 ⟨rfl, rfl⟩
      rw [HQ.out]
      go_wp2_with fail
      refine (xused_any _ l _ HS.out HL.out).mono ?_
      rintro e w2 ⟨rfl, rfl⟩
      rw [← HU.out, ← HT.out]
      go_wp2
      go_ret2
      rw [HY.out, HQ.out]
      exact ⟨rfl, rfl⟩
    · have t1' : ((T : Int) == 1) = false := by simp; omega
      go_enter Tryz.func110, Tryz.ntmps110
      go_wp2_with fail
      refine (xvalid_any _ l _ HS.out).mono ?_
      rintro e w1 ⟨rfl, rfl⟩
      rw [HQ.out]
      go_wp2_with fail
      refine (xused_any _ l _ HS.out HL.out).mono ?_
      rintro e w2 ⟨rfl, rfl⟩
      rw [← HU.out, ← HT.out]
      go_wp2
      go_ret2
      rw [HY.out, HQ.out]
      exact ⟨rfl, rfl⟩
  by_cases c4 : U = 32768
  · have HY : Hid (chkS l = 4) := by show _ = _; rw [HX.out, if_neg c3, if_pos c4]
    clear HX c2 c3
    subst c4
    by_cases t1 : T = 1
    · subst t1
      go_enter Tryz.func110, Tryz.ntmps110
      go_wp2_with fail
      refine (xvalid_any _ l _ HS.out).mono ?_
      rintro e w1 ⟨rfl, rfl⟩
      rw [HQ.out]
      go_wp2_with fail
      refine (xused_any _ l _ HS.out HL.out).mono ?_
      rintro e w2 ⟨rfl, rfl⟩
      rw [← HU.out, ← HT.out]
      go_wp2
      go_ret2
      rw [HY.out, HQ.out]
      exact ⟨rfl, rfl⟩
    · have t1' : ((T : Int) == 1) = false := by simp; omega
      go_enter Tryz.func110, Tryz.ntmps110
      go_wp2_with fail
      refine (xvalid_any _ l _ HS.out).mono ?_
      rintro e w1 ⟨rfl, rfl⟩
      rw [HQ.out]
      go_wp2_with fail
      refine (xused_any _ l _ HS.out HL.out).mono ?_
      rintro e w2 ⟨rfl, rfl⟩
      rw [← HU.out, ← HT.out]
      go_wp2
      go_ret2
      rw [HY.out, HQ.out]
      exact ⟨rfl, rfl⟩
  · have HY : Hid (chkS l = 2) := by show _ = _; rw [HX.out, if_neg c3, if_neg c4]
    clear HX
    have u2 : ((U : Int) == 32768) = false := by simp; omega
    by_cases t1 : T = 1
    · subst t1
      have u1 : ((U : Int) == 16384) = false := by simp; omega
      clear c2
      go_enter Tryz.func110, Tryz.ntmps110
      go_wp2_with fail
      refine (xvalid_any _ l _ HS.out).mono ?_
      rintro e w1 ⟨rfl, rfl⟩
      rw [HQ.out]
      go_wp2_with fail
      refine (xused_any _ l _ HS.out HL.out).mono ?_
      rintro e w2 ⟨rfl, rfl⟩
      rw [← HU.out, ← HT.out]
      go_wp2
      go_ret2
      rw [HY.out, HQ.out]
      exact ⟨rfl, rfl⟩
    · have t1' : ((T : Int) == 1) = false := by simp; omega
      clear c2
      go_enter Tryz.func110, Tryz.ntmps110
      go_wp2_with fail
      refine (xvalid_any _ l _ HS.out).mono ?_
      rintro e w1 ⟨rfl, rfl⟩
      rw [HQ.out]
      go_wp2_with fail
      refine (xused_any _ l _ HS.out HL.out).mono ?_
      rintro e w2 ⟨rfl, rfl⟩
      rw [← HU.out, ← HT.out]
      go_wp2
      go_ret2
      rw [HY.out, HQ.out]
      exact ⟨rfl, rfl⟩

def outN (l : List Int) (n s : Nat) : List Int := (List.range l.length).map fun t => if 0 < ln l t ∧ (ln l t < n ∨ (ln l t = n ∧ t < s)) then (wd l t : Int) else 0

theorem outN_len (l : List Int) (n s : Nat) : (outN l n s).length = l.length := by simp [outN]

theorem outN_start (l : List Int) : outN l 1 0 = List.replicate l.length 0 := by
  apply List.ext_getElem
  · simp [outN]
  · intro i h1 h2
    simp only [outN, List.getElem_map, List.getElem_range, List.getElem_replicate]
    rw [if_neg (by omega)]

theorem outN_skip {l : List Int} {n s : Nat} (h : ln l s ≠ n) : outN l n (s + 1) = outN l n s := by
  unfold outN
  apply List.map_congr_left
  intro t _
  by_cases e : t = s
  · subst e
    by_cases c : 0 < ln l t ∧ (ln l t < n ∨ (ln l t = n ∧ t < t))
    · rw [if_pos c, if_pos (by omega)]
    · rw [if_neg c, if_neg (by omega)]
  · by_cases c : 0 < ln l t ∧ (ln l t < n ∨ (ln l t = n ∧ t < s))
    · rw [if_pos c, if_pos (by omega)]
    · rw [if_neg c, if_neg (by omega)]

theorem outN_step {l : List Int} {n s : Nat} (h : ln l s = n) (h0 : 0 < n) : outN l n (s + 1) = (outN l n s).set s (wd l s : Int) := by
  apply List.ext_getElem
  · simp [outN]
  · intro t h1 h2
    rw [List.getElem_set]
    simp only [outN, List.getElem_map, List.getElem_range]
    by_cases e : s = t
    · subst e
      rw [if_pos (by omega), if_pos rfl]
    · rw [if_neg e]
      by_cases c : 0 < ln l t ∧ (ln l t < n ∨ (ln l t = n ∧ t < s))
      · rw [if_pos c, if_pos (by omega)]
      · rw [if_neg c, if_neg (by omega)]

theorem outN_next {l : List Int} {n : Nat} : outN l (n + 1) 0 = outN l n l.length := by
  unfold outN
  apply List.map_congr_left
  intro t ht
  have ht' : t < l.length := List.mem_range.1 ht
  by_cases c : 0 < ln l t ∧ (ln l t < n ∨ (ln l t = n ∧ t < l.length))
  · rw [if_pos c, if_pos (by omega)]
  · rw [if_neg c, if_neg (by omega)]

theorem outN_end {l : List Int} (hl : Lens l) : outN l 16 0 = wds l := by
  unfold outN wds
  apply List.map_congr_left
  intro t _
  have := (hl.ln t).2
  by_cases c : 0 < ln l t
  · rw [if_pos (by omega)]
  · rw [if_neg (by omega)]
    have : ln l t = 0 := by omega
    simp [wd, this]

def Xst (w : World) (l : List Int) (n s : Nat) (wr : World) : Prop := wr.heap[w.heap.size]? = some (.cells ((outN l n s).map (Value.int .i64)).toArray 3 (0, 0)) ∧ Below w.heap.size w wr

theorem Xst.step {w wr : World} {l : List Int} {n s : Nat} (h : Xst w l n s wr) (hn : ln l s = n) (h0 : 0 < n) (x : Int) (hx : x = (wd l s : Int)) : Xst w l n (s + 1) (wr.setCell ⟨w.heap.size, s, none⟩ (.int .i64 x)) :=
  ⟨by rw [heap_setCell_same _ _ _ _ _ _ h.1, map_set, outN_step hn h0, hx], h.2.setCell (by show _ ≤ w.heap.size; omega) _⟩

theorem wd_at {l : List Int} (hl : Lens l) {s n : Nat} (hn : ln l s = n) (h0 : 0 < n) : wd l s = fi l n + (l.take s).count (n : Int) := by
  unfold wd rk
  rw [if_neg (by omega), (hl.ln s).1, hn]

set_option maxHeartbeats 1000000 in
theorem xcodes_any (v : Value) (l : List Int) (w : World) (h : SI w v l) :
    Calls Tryz.prog 111 #[v] w fun e w' => ∃ a c, e = .returned (.tuple #[.slice a (cdL l).length c, .int .i64 (cdE l)]) ∧ OI w' w.heap.size (.slice a (cdL l).length c) (cdL l) ∧ Below w.heap.size w w' := by
  have HS := hide h
  obtain ⟨ao, cap, rfl, hlc, hcm⟩ := h.open
  clear h
  by_cases h0 : chkE l = 0
  case neg =>
    have h1 : (chkE l == 0) = false := by simpa using h0
    have HE : Hid (cdE l = chkE l) := if_pos h0
    have HC : Hid (cdL l = []) := if_neg (by rw [HE.out]; exact h0)
    obtain ⟨q, HQ⟩ : ∃ q, Hid (q = chkE l) := ⟨_, rfl⟩
    obtain ⟨r, HR⟩ : ∃ q, Hid (q = chkS l) := ⟨_, rfl⟩
    rw [← HQ.out] at h0 h1 HE
    rw [HC.out, HE.out]
    go_enter Tryz.func111, Tryz.ntmps111
    go_wp2_with fail
    refine (xcheck_any _ l _ HS.out).mono ?_
    rintro e w1 ⟨rfl, rfl⟩
    rw [← HQ.out, ← HR.out]
    go_wp2
    go_ret2
    exact ⟨none, 0, rfl, World.ownsRow_nil _ _ _ _, Below.refl _ _⟩
  obtain ⟨hl, hs⟩ := chkE_zero h0
  have HL := hide hl
  have h288 := hl.1
  have HR := hide hs
  have HQ := hide h0
  clear hl hs h0
  by_cases h3 : shp l = 3
  · have HE : Hid (cdE l = 51) := by show _ = _; unfold cdE; rw [if_neg (by have := HQ.out; simp [this]), if_pos h3]
    have HC : Hid (cdL l = []) := if_neg (by rw [HE.out]; decide)
    rw [HC.out, HE.out]
    go_enter Tryz.func111, Tryz.ntmps111
    go_wp2_with fail
    refine (xcheck_any _ l _ HS.out).mono ?_
    rintro e w1 ⟨rfl, rfl⟩
    rw [HQ.out, HR.out, h3]
    go_wp2
    go_ret2
    exact ⟨none, 0, rfl, World.ownsRow_nil _ _ _ _, Below.refl _ _⟩
  · have HE : Hid (cdE l = 0) := by show _ = _; unfold cdE; rw [if_neg (by have := HQ.out; simp [this]), if_neg h3]
    have HC : Hid (cdL l = wds l) := if_pos HE.out
    obtain ⟨r, HR2⟩ : ∃ q, Hid (q = shp l) := ⟨_, rfl⟩
    rw [HC.out, HE.out, wds_len]
    rw [← HR2.out] at h3
    have h3' : (r == 3) = false := by simpa using h3
    go_enter Tryz.func111, Tryz.ntmps111
    go_wp2_with fail
    refine (xcheck_any _ l _ HS.out).mono ?_
    rintro e w1 ⟨rfl, rfl⟩
    rw [HQ.out, HR.out, ← HR2.out]
    go_wp2_with (at_make; refine wpList_mkI rfl _ _ rfl _ _ _ _ l.length l.length rfl rfl rfl rfl (Nat.le_refl _) (by omega) ?_)
    intro w2 hg hb1
    have HW : Hid (Xst w1 l 1 0 w2) := ⟨by rw [hg, outN_start]; simp, hb1⟩
    clear hg hb1
    go_wp2
    go_loopw [7, 8] (fun u i wr => ∃ n : Nat, n ≤ 15 ∧ i = .int .i64 ((n : Int) + 1) ∧ u = .int .i64 ((fi l n + cn l n : Nat) : Int) ∧ Hid (Xst w1 l (n + 1) 0 wr)) (fun _ i _ => 16 - (intOf i).toNat)
    case atStart => exact ⟨0, Nat.zero_le _, rfl, rfl, HW⟩
    case round =>
      clear HW
      obtain ⟨n, hn, rfl, rfl, HT⟩ := hrel
      have b1 := fi_top HL.out (n := n) hn
      have b2 : cn l n ≤ 288 := by have := cn_le l n; omega
      by_cases hlt : n < 15
      · have hlt' : (n : Int) + 1 ≤ 15 := by omega
        have HF : Hid (fi l (n + 1) = 2 * (fi l n + cn l n)) := rfl
        obtain ⟨z, HZ⟩ : ∃ z : Nat, Hid (z = fi l n + cn l n) := ⟨_, rfl⟩
        have bz : z ≤ 100000000 := by rw [HZ.out]; omega
        rw [← HZ.out] at HF ⊢
        clear b1 b2
        go_wp2
        go_loopw [7, 9] (fun u i wr => ∃ s : Nat, s ≤ l.length ∧ i = .int .i64 s ∧ u = .int .i64 ((2 * z + (l.take s).count ((n : Int) + 1) : Nat) : Int) ∧ Hid (Xst w1 l (n + 1) s wr)) (fun _ i _ => l.length - (intOf i).toNat)
        case atStart => exact ⟨0, Nat.zero_le _, rfl, by simp, HT⟩
        case round =>
          clear HT
          obtain ⟨s, hs, rfl, rfl, HT⟩ := hrel
          have bc : (l.take s).count ((n : Int) + 1) ≤ 288 := by
            have := List.count_le_length (a := (n : Int) + 1) (l := l.take s)
            rw [List.length_take] at this; omega
          by_cases hsl : s < l.length
          · have hsl' : (s : Int) < (l.length : Int) := by omega
            obtain ⟨b, o, rfl, hc⟩ := HS.out.get HT.out.2 hsl
            have hcs := count_take_succ l ((n : Int) + 1) hsl
            obtain ⟨q, HQn⟩ : ∃ q, Hid (ln l s = q) := ⟨_, rfl⟩
            rw [(HL.out.ln s).1, HQn.out] at hc hcs
            obtain ⟨y, HY⟩ : ∃ y : Nat, Hid (y = 2 * z + (l.take s).count ((n : Int) + 1)) := ⟨_, rfl⟩
            have by' : y ≤ 1000000000 := by rw [HY.out]; omega
            have HCS := hide hcs
            rw [← HY.out]
            clear hcs bc
            by_cases e : q = n + 1
            · subst e
              have HX := hide (HT.out.step HQn.out (by omega) y (by rw [wd_at HL.out HQn.out (by omega), HY.out, HF.out]; push_cast; rfl))
              have HCC : Hid (2 * z + (l.take (s + 1)).count ((n : Int) + 1) = y + 1) := by show _ = _; rw [HCS.out, if_pos (by push_cast; rfl), HY.out]; omega
              obtain ⟨c0, hc0⟩ : ∃ c0, wr.cell? ⟨w1.heap.size, s, none⟩ = some c0 := by
                rw [cell_of_row _ _ _ _ _ _ HT.out.1]
                have : s < (outN l (n + 1) s).length := by rw [outN_len]; exact hsl
                exact ⟨_, by simp [this]; rfl⟩
              have f0 : wr.frozen? ⟨w1.heap.size, s, none⟩ = false := frozen_of_row _ _ _ _ _ HT.out.1
              have hq : ((n + 1 : Nat) : Int) = (n : Int) + 1 := by push_cast; rfl
              rw [hq] at hc
              clear HT hq
              go_wp2
              go_roundw
              case rel => exact ⟨s + 1, by omega, by go_num, by rw [HCC.out]; push_cast; rfl, HX⟩
              case measure => simp [intOf]; omega
            · have HX : Hid (Xst w1 l (n + 1) (s + 1) wr) := ⟨by rw [outN_skip (by rw [HQn.out]; exact e)]; exact HT.out.1, HT.out.2⟩
              have HCC : Hid (2 * z + (l.take (s + 1)).count ((n : Int) + 1) = y) := by show _ = _; rw [HCS.out, if_neg (by omega), HY.out]; omega
              have e' : ((q : Int) == (n : Int) + 1) = false := by simp; omega
              have e2 : ¬ (q : Int) = (n : Int) + 1 := by omega
              clear HT
              go_wp2
              go_roundw
              case rel => exact ⟨s + 1, by omega, by go_num, by rw [HCC.out], HX⟩
              case measure => simp [intOf]; omega
          · obtain rfl : s = l.length := by omega
            have hsl' : ¬ (l.length : Int) < (l.length : Int) := by omega
            have HX : Hid (Xst w1 l (n + 1 + 1) 0 wr) := ⟨by rw [outN_next]; exact HT.out.1, HT.out.2⟩
            have HCC : Hid (2 * z + (l.take l.length).count ((n : Int) + 1) = fi l (n + 1) + cn l (n + 1)) := by
              show _ = _
              rw [List.take_of_length_le (Nat.le_refl _), HF.out]
              unfold cn
              rw [if_neg (by omega)]
              push_cast; rfl
            rw [HCC.out]
            clear HT bc
            go_wp2
            go_roundw
            case rel => exact ⟨n + 1, by omega, by go_num, rfl, HX⟩
            case measure => simp [intOf]; omega
      · obtain rfl : n = 15 := by omega
        have hlt' : ¬ ((15 : Nat) : Int) + 1 ≤ 15 := by omega
        go_wp2
        go_ret2
        refine ⟨_, _, rfl, ?_, HT.out.2⟩
        have e := HT.out.1
        rw [outN_end HL.out] at e
        have := OI.of_full (base := w1.heap.size) e (by omega) (by rw [wds_len]; unfold maxLen; omega)
        rwa [wds_len] at this
end Go.Proofs.YtfoglaajnlbnbaaGreatDoor

