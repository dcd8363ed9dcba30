import Derived.Test.YtegoienjikjhkaaDoorGA26
import Derived.Test.YtegoienjikjhkaaDoorGA27
namespace Go.Proofs.YtegoienjikjhkaaDoor
open Go.RowKit Go.Maps
set_option maxRecDepth 20000

set_option linter.unusedSimpArgs false in
set_option maxHeartbeats 4000000 in
theorem bytes_any {w : World} {K : Nat → Nat} {g : Nat} {v : Value} {d : List Int} {r : Int} {h : Nat} {row : List Int} (H0 : WW w K g v d r h) (L : Lies row d r h) (u : Value) (l : List Int) (hB : Byt l)
    (HS : ∀ wr K1 v1 n1, Fr K K1 w wr → Stays g w wr v d.length v1 n1 → SB wr u l) (hl : row.length + 8 * l.length ≤ 268435456) :
    Calls Tryd.prog 52 #[.pointer (some ⟨g, 0, none⟩), u] w fun e w' => e = .returned (.tuple #[]) ∧ ∃ K' v' d' r' h', WW w' K' g v' d' r' h' ∧ Lies (row ++ unpack l) d' r' h' ∧ Fr K K' w w' := by
  have H := hide H0
  have HSB := hide HS
  have c0 : w.cell? ⟨g, 0, none⟩ = some v := H0.cell 0
  have c1 : w.cell? ⟨g, 1, none⟩ = some (.int .u64 r) := H0.cell 1
  have c2 : w.cell? ⟨g, 2, none⟩ = some (.int .i64 h) := H0.cell 2
  have hfz := H0.free
  have hgl := H0.lt
  obtain ⟨a, c, rfl⟩ := H0.o.shape
  obtain ⟨ua, uc, hu, _⟩ := HS w K _ _ (Fr.refl _ _) (Stays.refl _ _ _ _)
  subst hu
  have hh := L.h8
  have hll := L.len
  have HL := hide L
  have HBy := hide hB
  clear H0 L HS hB
  by_cases h0 : h = 0
  · subst h0
    have HSRC : Hid (Src Tryd.prog 1 44 (.slice ua l.length uc) l.length (l.map (Value.int .u8)) w) := (HSB.out w K _ _ (Fr.refl _ _) (Stays.refl _ _ _ _)).src
    have HLEN : Hid (d.length + l.length ≤ 140737488355328) := by show _ ≤ _; omega
    go_enter Tryd.func52, Tryd.ntmps52
    go_wp2_with (at_builtin; refine wpList_app rfl _ _ 44 rfl 0 _ (.slice ua l.length uc) d l rfl H.out.o rfl HSRC.out HLEN.out (Nat.zero_le _) ?_)
    intro v6 w6 hown6 hgrow6
    have e2 : w6.heap[g]? = _ := (hgrow6.by.block g hgl (fun e => H.out.ng e.symm)).trans H.out.s
    have t0 : w6.cell? ⟨g, 0, none⟩ = some (.slice a d.length c) := by simp [World.cell?, e2]
    have tf : w6.frozen? ⟨g, 0, none⟩ = false := by simp [World.frozen?, e2]
    have HN : Hid (∃ K' v' d' r' h', WW (w6.setCell ⟨g, 0, none⟩ v6) K' g v' d' r' h' ∧ Lies (row ++ unpack l) d' r' h' ∧ Fr K K' w (w6.setCell ⟨g, 0, none⟩ v6)) := by
      obtain ⟨K', a1, a2⟩ := H.out.put (w1 := w6) hgrow6.by hown6 (by
        rcases hgrow6.at with e | e
        · exact .inr (fun k hk => by rw [e] at hk; cases hk; exact Nat.le_refl _)
        · exact .inl e)
      refine ⟨K', _, _, r, 0, a1, ⟨?_, byt_append HL.out.b HBy.out, HL.out.r0, HL.out.r1, HL.out.h8⟩, a2⟩
      rw [HL.out.e, unpack_append]
      simp [bts]
    obtain ⟨a6, c6, rfl⟩ := hown6.shape
    rw [List.length_append] at HN
    clear hown6 hgrow6 e2
    go_wp2
    (try simp only [Exit.inBlock, Exit.then]); refine bodyPost_ret (results_none rfl _ _ _) rfl ?_
    exact ⟨rfl, HN.out⟩
  · have h0' : (0 : Int) < h := by omega
    have h0b : ((h : Int) == 0) = false := by simp; omega
    go_enter Tryd.func52, Tryd.ntmps52
    go_wp2_with fail
    refine (grow_any _ d l.length w H.out.o (by omega) (by omega)).mono ?_
    rintro e w1 ⟨a1, p1, rfl, ho1, hg1⟩
    have hgl1 : w1.heap[g]? = _ := (hg1.by.block g hgl (fun e => H.out.ng e.symm)).trans H.out.s
    have t0 : w1.cell? ⟨g, 0, none⟩ = some (.slice a d.length c) := by simp [World.cell?, hgl1]
    have tf : w1.frozen? ⟨g, 0, none⟩ = false := by simp [World.frozen?, hgl1]
    have HST : Hid (∃ K1, WW (w1.setCell ⟨g, 0, none⟩ (.slice a1 d.length p1)) K1 g (.slice a1 d.length p1) d r h ∧ Fr K K1 w (w1.setCell ⟨g, 0, none⟩ (.slice a1 d.length p1)) ∧ Stays g w (w1.setCell ⟨g, 0, none⟩ (.slice a1 d.length p1)) (.slice a d.length c) d.length (.slice a1 d.length p1) d.length) := by
      have hat : (Value.slice a1 d.length p1).ownBlock = (Value.slice a d.length c).ownBlock ∨ ∀ k, (Value.slice a1 d.length p1).ownBlock = some k → w.heap.size ≤ k := by
        rcases hg1.at with e | e
        · exact .inr (fun k hk => by rw [e] at hk; cases hk; exact Nat.le_refl _)
        · exact .inl e
      obtain ⟨K', b1, b2⟩ := H.out.put (w1 := w1) hg1.by ho1 hat
      refine ⟨K', b1, b2, fun b i hb hbg hi => ?_, hat, Nat.le_refl _, b2.size⟩
      rw [World.cell?_of_block (setCell_others w1 g 0 _ b hbg)]
      exact hg1.stays (news := []) H.out.o (by simpa using ho1) hb hi
    clear ho1 hg1 hgl1
    go_wp2
    clear t0 tf c0 c1 c2 hfz hgl h0b h0'
    go_loopw [32] (fun i wr => ∃ k : Nat, k ≤ l.length ∧ i = .int .i64 k ∧ Hid (∃ K1 v1 d1 r1 h1, WW wr K1 g v1 d1 r1 h1 ∧ Lies (row ++ unpack (l.take k)) d1 r1 h1 ∧ Fr K K1 w wr ∧ Stays g w wr (.slice a d.length c) d.length v1 d1.length)) (fun i _ => l.length - (intOf i).toNat)
    case atStart =>
      obtain ⟨K1, b1, b2, b3⟩ := HST.out
      exact ⟨0, Nat.zero_le _, rfl, K1, _, d, r, h, b1, by simpa [unpack] using HL.out, b2, b3⟩
    case round =>
      clear HST
      obtain ⟨k, hk, rfl, HQ⟩ := hrel
      obtain ⟨K1, v1, d1, r1, h1, hW, hLi, hF, hS⟩ := HQ.out
      clear HQ
      have HW := hide hW
      have HLi := hide hLi
      have HF := hide hF
      have HS := hide hS
      have hlen := hLi.len
      rw [List.length_append, length_unpack, List.length_take] at hlen
      have hsb := HSB.out wr K1 _ _ hF hS
      clear hW hLi hF hS
      by_cases hlt : k < l.length
      · have hlt' : (k : Int) < (l.length : Int) := by omega
        obtain ⟨ao, uc', hue, hc1, hc2, hc3, hc4⟩ := hsb
        simp only [Value.slice.injEq] at hue
        obtain ⟨rfl, -, rfl⟩ := hue
        cases ua with
        | none => have := hc3 rfl; omega
        | some x0 =>
        obtain ⟨b, o, rfl⟩ := addr_lit (hc4 x0 rfl 0 (by omega))
        obtain ⟨q, hq, HQ⟩ : ∃ q, wr.cell? ⟨b, o + k, none⟩ = some (.int .u8 q) ∧ Hid (q = l.getD k 0) := by
          have := hc4 _ rfl k hlt
          rw [Addr.add_lit] at this
          exact ⟨_, this, rfl⟩
        have hq01 : 0 ≤ q ∧ q < 256 := by rw [HQ.out]; exact HBy.out k
        obtain ⟨hq0, hq1⟩ := hq01
        unfold maxLen at hc2
        clear hc3 hc4
        go_wp2_with fail
        refine (put_any HW.out HLi.out q 8 hq0 hq1 (by omega) (by omega)).mono ?_
        rintro e w2 ⟨rfl, K2, v2, d2, r2, h2, b1, b2, b3, b4⟩
        have HN : Hid (∃ K1 v1 d1 r1 h1, WW w2 K1 g v1 d1 r1 h1 ∧ Lies (row ++ unpack (l.take (k + 1))) d1 r1 h1 ∧ Fr K K1 w w2 ∧ Stays g w w2 (.slice a d.length c) d.length v1 d1.length) := by
          refine ⟨K2, v2, d2, r2, h2, b1, ?_, HF.out.trans b3, HS.out.trans b4⟩
          have e : l.take (k + 1) = l.take k ++ [q] := by
            rw [List.take_succ_eq_append_getElem hlt, HQ.out]
            simp [List.getD, hlt]
          rw [e, unpack_append, unpack_one, ← List.append_assoc]
          exact b2
        clear b1 b2 b3 b4 hq
        go_wp2
        go_roundw
        case rel => exact ⟨k + 1, by omega, by go_num, HN.out⟩
        case measure => simp [intOf]; omega
      · obtain rfl : k = l.length := by omega
        clear hsb
        have hlt' : ¬ (l.length : Int) < (l.length : Int) := by omega
        have HFIN : Hid (∃ K' v' d' r' h', WW wr K' g v' d' r' h' ∧ Lies (row ++ unpack l) d' r' h' ∧ Fr K K' w wr) := by
          refine ⟨K1, v1, d1, r1, h1, HW.out, ?_, HF.out⟩
          have := HLi.out
          rwa [List.take_of_length_le (Nat.le_refl _)] at this
        go_wp2
        (try simp only [Exit.inBlock, Exit.then]); refine bodyPost_end (results_none rfl _ _ _) rfl ?_
        exact ⟨rfl, HFIN.out⟩
end Go.Proofs.YtegoienjikjhkaaDoor

namespace Go.Proofs.YtegoienjikjhkaaDoor
open Go.RowKit Go.Maps
set_option maxRecDepth 20000

def rawE (row l : List Int) : Int := if 268435456 < row.length + 8 * l.length then 1 else if row.length % 8 ≠ 0 then 31 else 0
def rawRow (row l : List Int) : List Int := if 268435456 < row.length + 8 * l.length then row else if row.length % 8 ≠ 0 then row else row ++ unpack l

theorem SB.safe {w : World} {u : Value} {l : List Int} (h : SB w u l) {K : Nat → Nat} (hk : ∀ k, u.ownBlock = some k → k < w.heap.size → K k = 0) : ∀ wr K1, Fr K K1 w wr → SB wr u l :=
  fun wr K1 hF => h.move fun a x ha hb => by
    have hl := World.block_lt_of_cell? w a ha
    rw [World.cell?_of_block (w := w) (hF.block a.block hl (hk _ hb hl))]
    exact ha

theorem SB.len {w : World} {u : Value} {l : List Int} (h : SB w u l) : ∃ a c, u = .slice a l.length c := by
  obtain ⟨a, c, h, _⟩ := h
  exact ⟨a, c, h⟩

def joinE (row x : List Int) : Int := if 268435456 < row.length + x.length then 1 else 0
def joinRow (row x : List Int) : List Int := if 268435456 < row.length + x.length then row else row ++ x

theorem lies_join {row x d : List Int} {r : Int} {h : Nat} (L : Lies x d r h) : row ++ unpack d ++ bts r h = row ++ x := by
  rw [L.e, List.append_assoc]

theorem wjoin_any {w : World} {K Kx : Nat → Nat} {g gx : Nat} {row x : List Int} (h : Wp w K g row) (hx : Wp w Kx gx x) (hap : ∀ k, Kx k ≠ 0 → K k = 0) :
    Calls Tryd.prog 30 #[.pointer (some ⟨g, 0, none⟩), .pointer (some ⟨gx, 0, none⟩)] w fun e w' => e = .returned (.int .i64 (joinE row x)) ∧ ∃ K', Wp w' K' g (joinRow row x) ∧ Fr K K' w w' := by
  have H := hide h
  have HX := hide hx
  have ht := h.top
  have htx := hx.top
  obtain ⟨v, d, r, n, a1, a2, a3⟩ := h
  obtain ⟨vx, dx, rx, nx, b1, b2, b3⟩ := hx
  have hlx := b2.len
  have hl := a2.len
  have hnx := b2.h8
  have HA1 := hide a1
  have HA2 := hide a2
  have HB1 := hide b1
  have HB2 := hide b2
  have c0 : ∀ q, (w.drewN q).cell? ⟨gx, 0, none⟩ = some vx := fun q => b1.cell 0
  have c1 : ∀ q, (w.drewN q).cell? ⟨gx, 1, none⟩ = some (.int .u64 rx) := fun q => b1.cell 1
  have c2 : ∀ q, (w.drewN q).cell? ⟨gx, 2, none⟩ = some (.int .i64 nx) := fun q => b1.cell 2
  have HAP := hide hap
  obtain ⟨xa, xc, hvx⟩ := b1.o.shape
  subst hvx
  clear a1 a2 b1 b2 hap
  by_cases hr : 268435456 < row.length + x.length
  · have HE : Hid (joinE row x = 1 ∧ joinRow row x = row) := ⟨if_pos hr, if_pos hr⟩
    clear c0 c1 c2
    go_enter Tryd.func30, Tryd.ntmps30
    go_wp2_with fail
    refine (wlen_any HX.out).mono ?_
    rintro e w1 ⟨rfl, q, rfl⟩
    go_wp2_with fail
    refine (room_any (H.out.drewN q)).mono ?_
    rintro e w1 ⟨rfl, q2, rfl⟩
    go_wp2
    go_ret
    rw [HE.out.1, HE.out.2]
    exact ⟨rfl, K, H.out.drewN _, (Fr.refl _ _).drewN _⟩
  · have HE : Hid (joinE row x = 0 ∧ joinRow row x = row ++ x) := ⟨if_neg hr, if_neg hr⟩
    have hr' : ¬ (268435456 - (row.length : Int) < x.length) := by omega
    have HR1 : Hid (row.length + 8 * dx.length ≤ 268435456) := by show _ ≤ _; omega
    have HR2 : Hid (row.length + x.length ≤ 268435456) := by show _ ≤ _; omega
    have hdn : dx.length ≤ 33554432 := by omega
    clear hl hlx hr
    have HSX : Hid (SB w (.slice xa dx.length xc) dx) := HB1.out.o.sb
    have HSAFE : Hid (∀ wr K1, Fr K K1 w wr → SB wr (.slice xa dx.length xc) dx) := HSX.out.safe fun k hk _ => HAP.out k (by rw [HB1.out.kv k hk]; omega)
    go_enter Tryd.func30, Tryd.ntmps30
    go_wp2_with fail
    refine (wlen_any HX.out).mono ?_
    rintro e w1 ⟨rfl, q, rfl⟩
    go_wp2_with fail
    refine (room_any (H.out.drewN q)).mono ?_
    rintro e w1 ⟨rfl, q2, rfl⟩
    go_wp2
    go_quiet (fail)
    rename_i nq _
    go_wp2_with fail
    refine (bytes_any (HA1.out.drewN _) HA2.out _ dx HB2.out.b (fun wr K1 v1 n1 hF _ => HSAFE.out wr K1 (((Fr.refl K w).drewN _).trans hF)) HR1.out).mono ?_
    rintro e w2 ⟨rfl, K', v', d', r', h', e1, e2, e3⟩
    have HE1 := hide e1
    have HE2 := hide e2
    have HE3 := hide e3
    have hld := e2.len
    rw [List.length_append, length_unpack] at hld
    have hd' : d'.length ≤ 140737488351232 := by omega
    clear e1 e2 e3 hld
    go_wp2_with fail
    refine (put_any HE1.out HE2.out rx nx HB2.out.r0 HB2.out.r1 (by omega) hd').mono ?_
    rintro e w3 ⟨rfl, K3, v3, d3, r3, h3, f1, f2, f3, _⟩
    have HF : Hid (∃ K', Wp w3 K' g (joinRow row x) ∧ Fr K K' w w3) := by
      rw [HE.out.2, ← lies_join HB2.out]
      refine ⟨K3, ⟨v3, d3, r3, h3, f1, f2, ?_⟩, (((Fr.refl _ _).drewN _).trans HE3.out).trans f3⟩
      rw [lies_join HB2.out, List.length_append]
      exact HR2.out
    clear f1 f2 f3
    go_wp2
    go_ret
    rw [HE.out.1]
    exact ⟨rfl, HF.out⟩

theorem OB.sb_stays {w wr : World} {g q : Nat} {v v1 : Value} {d : List Int} {n1 : Nat} (h : OB w 0 v d) (hn : v.ownBlock ≠ some g) (hS : Stays g (w.drewN q) wr v d.length v1 n1) : SB wr v d := by
  obtain ⟨ao, cap, he, q1, q2, q3, q4⟩ := h.sb
  refine ⟨ao, cap, he, q1, q2, q3, fun x hx i hi => ?_⟩
  have hlt := fun k hk => (h.lt k hk).2
  have hget := fun b hb => h.get (b := b) hb hi
  rcases h.2 with ⟨rfl, h0⟩ | ⟨gb, c, cur, rfl, _⟩
  · omega
  · simp only [Value.slice.injEq] at he
    obtain ⟨rfl, -, -⟩ := he
    cases hx
    rw [Addr.add_lit, Nat.zero_add]
    rw [hS.c gb i (hlt gb rfl) (fun e => hn (by rw [← e]; rfl)) (fun _ => hi)]
    exact hget gb rfl

theorem wjoin_self {w : World} {K : Nat → Nat} {g : Nat} {row : List Int} (h : Wp w K g row) :
    Calls Tryd.prog 30 #[.pointer (some ⟨g, 0, none⟩), .pointer (some ⟨g, 0, none⟩)] w fun e w' => e = .returned (.int .i64 (joinE row row)) ∧ ∃ K', Wp w' K' g (joinRow row row) ∧ Fr K K' w w' := by
  have H := hide h
  have ht := h.top
  obtain ⟨v, d, r, n, a1, a2, a3⟩ := h
  have hl := a2.len
  have hn := a2.h8
  have HA1 := hide a1
  have HA2 := hide a2
  have c0 : ∀ q, (w.drewN q).cell? ⟨g, 0, none⟩ = some v := fun q => a1.cell 0
  have c1 : ∀ q, (w.drewN q).cell? ⟨g, 1, none⟩ = some (.int .u64 r) := fun q => a1.cell 1
  have c2 : ∀ q, (w.drewN q).cell? ⟨g, 2, none⟩ = some (.int .i64 n) := fun q => a1.cell 2
  obtain ⟨xa, xc, hv⟩ := a1.o.shape
  subst hv
  have HLL := hide hl
  clear a1 a2
  by_cases hr : 268435456 < row.length + row.length
  · have HE : Hid (joinE row row = 1 ∧ joinRow row row = row) := ⟨if_pos hr, if_pos hr⟩
    clear c0 c1 c2 hl
    go_enter Tryd.func30, Tryd.ntmps30
    go_wp2_with fail
    refine (wlen_any H.out).mono ?_
    rintro e w1 ⟨rfl, q, rfl⟩
    go_wp2_with fail
    refine (room_any (H.out.drewN q)).mono ?_
    rintro e w1 ⟨rfl, q2, rfl⟩
    go_wp2
    go_ret
    rw [HE.out.1, HE.out.2]
    exact ⟨rfl, K, H.out.drewN _, (Fr.refl _ _).drewN _⟩
  · have HE : Hid (joinE row row = 0 ∧ joinRow row row = row ++ row) := ⟨if_neg hr, if_neg hr⟩
    have hr' : ¬ (268435456 - (row.length : Int) < row.length) := by omega
    have HR1 : Hid (row.length + 8 * d.length ≤ 268435456) := by show _ ≤ _; omega
    have HR2 : Hid (row.length + row.length ≤ 268435456) := by show _ ≤ _; omega
    have hdn : d.length ≤ 33554432 := by omega
    have HSAFE : Hid (∀ (q : Nat) (wr : World) v1 n1, Stays g (w.drewN q) wr (.slice xa d.length xc) d.length v1 n1 → SB wr (.slice xa d.length xc) d) := fun q wr v1 n1 hS => HA1.out.o.sb_stays HA1.out.ng hS
    clear hl hr
    go_enter Tryd.func30, Tryd.ntmps30
    go_wp2_with fail
    refine (wlen_any H.out).mono ?_
    rintro e w1 ⟨rfl, q, rfl⟩
    go_wp2_with fail
    refine (room_any (H.out.drewN q)).mono ?_
    rintro e w1 ⟨rfl, q2, rfl⟩
    go_wp2
    go_quiet (fail)
    rename_i nq _
    go_wp2_with fail
    refine (bytes_any (HA1.out.drewN _) HA2.out _ d HA2.out.b (fun wr K1 v1 n1 _ hS => HSAFE.out _ wr v1 n1 hS) HR1.out).mono ?_
    rintro e w2 ⟨rfl, K', v', d', r', h', e1, e2, e3⟩
    have HE1 := hide e1
    have HE2 := hide e2
    have HE3 := hide e3
    have hld := e2.len
    rw [List.length_append, length_unpack] at hld
    have hd' : d'.length ≤ 140737488351232 := by omega
    clear e1 e2 e3 hld
    go_wp2_with fail
    refine (put_any HE1.out HE2.out r n HA2.out.r0 HA2.out.r1 (by omega) hd').mono ?_
    rintro e w3 ⟨rfl, K3, v3, d3, r3, h3, f1, f2, f3, _⟩
    have HF : Hid (∃ K', Wp w3 K' g (joinRow row row) ∧ Fr K K' w w3) := by
      rw [HE.out.2]
      rw [lies_join HA2.out] at f2
      refine ⟨K3, ⟨v3, d3, r3, h3, f1, f2, ?_⟩, (((Fr.refl _ _).drewN _).trans HE3.out).trans f3⟩
      rw [List.length_append]
      exact HR2.out
    clear f1 f2 f3
    go_wp2
    go_ret
    rw [HE.out.1]
    exact ⟨rfl, HF.out⟩
end Go.Proofs.YtegoienjikjhkaaDoor

namespace Go.Proofs.YtegoienjikjhkaaDoor
open Go.RowKit Go.Maps
set_option maxRecDepth 20000

theorem hjoin {W w : World} {xs : List ((Nat → Nat) × Thing)} (H : Herd W w xs) (i j : Nat) {K Kx : Nat → Nat} {g gx : Nat} {row x : List Int} (hi : xs[i]? = some (K, tw g row)) (hj : xs[j]? = some (Kx, tw gx x)) (hij : i ≠ j) :
    Calls Tryd.prog 30 #[.pointer (some ⟨g, 0, none⟩), .pointer (some ⟨gx, 0, none⟩)] w fun e w' => e = .returned (.int .i64 (joinE row x)) ∧ ∃ K', Herd W w' (xs.set i (K', tw g (joinRow row x))) := by
  have hw : Wp w K g row := H.rep i _ hi
  have hx : Wp w Kx gx x := H.rep j _ hj
  refine (wjoin_any hw hx (H.sep j i _ _ hj hi (fun e => hij e.symm))).mono ?_
  rintro e w1 ⟨rfl, K', h1, h2⟩
  exact ⟨rfl, K', H.op i hi (x' := tw g (joinRow row x)) h1 h2⟩

theorem hjoinself {W w : World} {xs : List ((Nat → Nat) × Thing)} (H : Herd W w xs) (i : Nat) {K : Nat → Nat} {g : Nat} {row : List Int} (hi : xs[i]? = some (K, tw g row)) :
    Calls Tryd.prog 30 #[.pointer (some ⟨g, 0, none⟩), .pointer (some ⟨g, 0, none⟩)] w fun e w' => e = .returned (.int .i64 (joinE row row)) ∧ ∃ K', Herd W w' (xs.set i (K', tw g (joinRow row row))) := by
  have hw : Wp w K g row := H.rep i _ hi
  refine (wjoin_self hw).mono ?_
  rintro e w1 ⟨rfl, K', h1, h2⟩
  exact ⟨rfl, K', H.op i hi (x' := tw g (joinRow row row)) h1 h2⟩
end Go.Proofs.YtegoienjikjhkaaDoor

