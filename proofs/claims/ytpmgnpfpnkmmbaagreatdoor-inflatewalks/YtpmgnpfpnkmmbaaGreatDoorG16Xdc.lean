import Derived.Test.YtpmgnpfpnkmmbaaGreatDoorG15Qr2
import Derived.Test.YtpmgnpfpnkmmbaaGreatDoorG07Rw2
import Derived.Test.YtpmgnpfpnkmmbaaGreatDoorG11Fix
import Derived.Test.YtpmgnpfpnkmmbaaGreatDoorG06Dcd
namespace Go.Proofs.YtpmgnpfpnkmmbaaGreatDoor
open Go.RowKit Go.Maps
set_option maxRecDepth 20000

theorem pad_self {row : List Int} (h : row.length % 8 = 0) : pad row = row := by
  unfold pad
  rw [show (row.length + 7) / 8 * 8 - row.length = 0 by omega]
  simp

/-- The bytes that come off, one by one. -/
theorem rraw_get {row : List Int} (hb : Bit row) {p n : Nat} (hl : p + 8 * n ≤ row.length) :
    (pack ((row.drop p).take (8 * n))).length = n ∧ Byt (pack ((row.drop p).take (8 * n))) ∧ ∀ k, k < n → ahead row (p + 8 * k) 8 = (pack ((row.drop p).take (8 * n))).getD k 0 := by
  have hX : Bit ((row.drop p).take (8 * n)) := (hb.drop p).take _
  have hXl : ((row.drop p).take (8 * n)).length = 8 * n := by rw [List.length_take, List.length_drop]; omega
  obtain ⟨hu, hB⟩ := unpack_pack hX
  rw [pad_self (by omega)] at hu
  have hlen : (pack ((row.drop p).take (8 * n))).length = n := by rw [length_pack hX, hXl]; omega
  refine ⟨hlen, hB, fun k hk => ?_⟩
  obtain ⟨L, HL⟩ : ∃ L, L = pack ((row.drop p).take (8 * n)) := ⟨_, rfl⟩
  rw [← HL] at hu hB hlen ⊢
  have e1 : (row.drop (p + 8 * k)).take 8 = ((unpack L).drop (8 * k)).take 8 := by
    rw [hu, List.drop_take, List.drop_drop, List.take_take, Nat.min_eq_left (by omega)]
  unfold ahead
  rw [e1, ← unpack_drop, List.drop_eq_getElem_cons (by omega), unpack_cons, List.take_append_of_le_length (by rw [length_bts]; exact Nat.le_refl _), List.take_of_length_le (by rw [length_bts]; exact Nat.le_refl _)]
  have hk2 : k < L.length := by omega
  have hg : L.getD k 0 = L[k] := by simp [List.getD, hk2]
  have hb2 := hB k
  rw [hg] at hb2 ⊢
  exact val_bts_in hb2.1 (by omega)

theorem peek_in8 {row : List Int} {p : Nat} : peekV row p 8 = ahead row p 8 := by
  have hc : Cnt 8 := ⟨by omega, by omega⟩
  unfold peekV; rw [if_pos hc]; rfl

end Go.Proofs.YtpmgnpfpnkmmbaaGreatDoor

namespace Go.Proofs.YtpmgnpfpnkmmbaaGreatDoor
open Go.RowKit Go.Maps
set_option maxRecDepth 20000

/-- A reader of the document's just made. -/
def MadeQ (w : World) (row : List Int) (e : Ending) (w' : World) : Prop := ∃ g K, e = .returned (.pointer (some ⟨g, 0, none⟩)) ∧ Rq w' K g row 0 ∧ (∀ k, K k ≠ 0 → w.heap.size ≤ k) ∧ Below w.heap.size w w'

/-- The document's reader while it is filled. -/
def Fill (w : World) (g : Nat) (U : List Int) (n : Nat) (wr : World) : Prop := ∃ K1 v1, WV 86 [.int .i64 0] wr K1 g v1 (U.take n) ∧ (∀ k, K1 k ≠ 0 → w.heap.size ≤ k) ∧ Below w.heap.size w wr

set_option linter.unusedSimpArgs false in
set_option maxHeartbeats 4000000 in
theorem qnewReader_any (u : Value) (l : List Int) (w : World) (h : SB w u l) (hB : Byt l) (hl : l.length ≤ 33554432) :
    Calls Tryz.prog 38 #[u] w fun e w' => MadeQ w (unpack l) e w' := by
  obtain ⟨ao, cap, hu⟩ := h.len
  subst hu
  obtain ⟨hcap1, hcap2⟩ := h.cap
  have HS := hide h
  have HBy := hide hB
  obtain ⟨U, HU⟩ : ∃ U, Hid (U = unpack l) := ⟨_, rfl⟩
  have HUl : Hid (U.length = 8 * l.length) := by show _ = _; rw [HU.out, length_unpack]
  rw [← HU.out]
  clear h hB
  have HST : Hid (Fill w w.heap.size U 0 (w.alloc (.cells #[.slice none 0 0, .int .i64 0] 86))) := by
    refine ⟨fun k => if k = w.heap.size then 1 else 0, .slice none 0 0, ⟨heap_alloc_new w _, by simp, World.ownsRow_nil _ _ _ _, (fun k hk => by simp [Value.ownBlock] at hk), fun k hk => ?_⟩, fun k hk => ?_, (Below.refl _ _).alloc (Nat.le_refl _) _⟩
    · by_cases e : k = w.heap.size
      · rw [e, size_alloc']; omega
      · simp [e] at hk
    · by_cases e : k = w.heap.size
      · omega
      · simp [e] at hk
  obtain ⟨g, HG⟩ : ∃ g, Hid (g = w.heap.size) := ⟨_, rfl⟩
  go_enter Tryz.func38, Tryz.ntmps38
  go_wp2
  rw [← HG.out] at HST ⊢
  go_loopw [4] (fun i wr => ∃ k : Nat, k ≤ l.length ∧ i = .int .i64 k ∧ Hid (Fill w g U (8 * k) wr)) (fun i _ => l.length - (intOf i).toNat)
  case atStart => exact ⟨0, Nat.zero_le _, rfl, HST.out⟩
  case round =>
    clear HST
    obtain ⟨k, hk, rfl, HQ⟩ := hrel
    by_cases hlt : k < l.length
    · have hlt' : (k : Int) < (l.length : Int) := by omega
      go_wp2
      go_loopw [5] (fun i wr => ∃ j : Nat, j ≤ 8 ∧ i = .int .i64 j ∧ Hid (Fill w g U (8 * k + j) wr)) (fun i _ => 8 - (intOf i).toNat)
      case atStart => exact ⟨0, by omega, rfl, HQ.out⟩
      case round =>
        clear HQ
        obtain ⟨j, hj, rfl, HQ⟩ := hrel
        obtain ⟨K1, v1, hW, hN, hBe⟩ := HQ.out
        have HW := hide hW
        have HN := hide hN
        have HBE := hide hBe
        clear HQ hW hN hBe
        by_cases hj8 : j < 8
        · have hj8' : (j : Int) < 8 := by omega
          obtain ⟨x, hx⟩ : ∃ x, l[k]? = some x := ⟨l[k], by simp [hlt]⟩
          have hbit := unpack_get hx hj8
          rw [← HU.out] at hbit
          obtain ⟨b, o, hao, hc⟩ := HS.out.byte HBE.out hlt
          have hxd : l.getD k 0 = x := by rw [List.getD, hx]; rfl
          rw [hxd] at hc
          obtain ⟨hx0, hx1⟩ := HBy.out.get hx
          subst hao
          have HTO := hide (take_one hbit)
          obtain ⟨q, HQ⟩ : ∃ q, Hid (q = x / 2 ^ j % 2) := ⟨_, rfl⟩
          rw [← HQ.out] at HTO
          obtain ⟨D, HD⟩ : ∃ D, Hid (D = U.take (8 * k + j)) := ⟨_, rfl⟩
          have hDl : D.length ≤ 268435456 := by rw [HD.out, List.length_take, HUl.out]; omega
          rw [← HD.out] at HW HTO
          clear hbit hxd hx
          go_wp2_with fail
          refine (bit_any x j (by omega) hx0 (by omega) _).mono ?_
          rintro e wx ⟨rfl, hwx⟩
          subst hwx
          rw [← HQ.out]
          obtain ⟨a1, p1, hv⟩ := HW.out.o.shape
          subst hv
          have c0 : wx.cell? ⟨g, 0, none⟩ = some (.slice a1 D.length p1) := HW.out.cell 0
          have hfz := HW.out.free
          obtain ⟨k1, r1, r2, r3⟩ := HW.out.alloc1 q
          have HROW := hide r1
          have HSRC := hide r2
          have HG6 := hide r3
          have HLEN : Hid (D.length + ([q] : List Int).length ≤ 140737488355328) := by show _ ≤ _; simp; omega
          clear r1 r2 r3
          go_wp2_with (at_builtin; refine wpList_app rfl _ _ 22 rfl 0 _ _ D [q] rfl (HROW.out _ rfl) rfl (HSRC.out _ rfl) HLEN.out (Nat.zero_le _) ?_)
          intro v6 w6 ho6 hg6
          obtain ⟨t0, tf⟩ := HG6.out _ w6 _ rfl hg6
          have HNX : Hid (Fill w g U (8 * k + (j + 1)) (w6.setCell ⟨g, 0, none⟩ v6)) := by
            obtain ⟨K', n1, n2⟩ := HW.out.snoc rfl rfl rfl rfl ho6 hg6
            refine ⟨K', v6, ?_, n2.up HN.out HBE.out.size, HBE.out.trans (n2.below HN.out HBE.out.size)⟩
            rw [show 8 * k + (j + 1) = 8 * k + j + 1 by omega, HTO.out]
            exact n1
          obtain ⟨a6, p6, rfl⟩ := ho6.shape
          clear ho6 hg6 HROW HSRC HG6 k1
          go_wp2
          go_roundw
          case rel => exact ⟨j + 1, by omega, by go_num, by show Fill _ _ _ _ _; simpa using HNX.out⟩
          case measure => simp [intOf]; omega
        · obtain rfl : j = 8 := by omega
          go_wp2
          go_roundw
          case rel => exact ⟨k + 1, by omega, by go_num, K1, v1, by rw [show 8 * (k + 1) = 8 * k + 8 by omega]; exact HW.out, HN.out, HBE.out⟩
          case measure => simp [intOf]; omega
    · obtain rfl : k = l.length := by omega
      have hlt' : ¬ (l.length : Int) < (l.length : Int) := by omega
      obtain ⟨K1, v1, hW, hN, hBe⟩ := HQ.out
      rw [List.take_of_length_le (by rw [HUl.out]; exact Nat.le_refl _)] at hW
      have HFIN : Hid (MadeQ w U (.returned (.pointer (some ⟨g, 0, none⟩))) wr) := ⟨g, K1, rfl, ⟨v1, hW, by rw [HU.out]; exact bit_unpack _, Nat.zero_le _, by rw [HUl.out]; omega, by rw [HUl.out]; omega⟩, hN, hBe⟩
      clear hW hN hBe HQ
      go_wp2
      go_ret
      exact HFIN.out
end Go.Proofs.YtpmgnpfpnkmmbaaGreatDoor

namespace Go.Proofs.YtpmgnpfpnkmmbaaGreatDoor
open Go.RowKit Go.Maps
set_option maxRecDepth 20000

structure It where
  kind : Int
  v : Int
  n : Int
  d : Value
  l : List Int

/-- The items in memory. -/
def ISc (w : World) (v : Value) (ops : List It) : Prop :=
  ∃ ao cap, v = .slice ao ops.length cap ∧ ops.length ≤ cap ∧ cap ≤ maxLen ∧ ∀ (i : Nat) (o : It), ops[i]? = some o → ∃ b of, ao = some ⟨b, of, none⟩ ∧ w.cell? ⟨b, of + i * 4, none⟩ = some (.int .i64 o.kind) ∧ w.cell? ⟨b, of + i * 4 + 1, none⟩ = some (.int .u32 o.v) ∧ w.cell? ⟨b, of + i * 4 + 2, none⟩ = some (.int .i64 o.n) ∧ w.cell? ⟨b, of + i * 4 + 3, none⟩ = some o.d

def IOk (w : World) (ops : List It) : Prop := ∀ o ∈ ops, (0 ≤ o.v ∧ o.v < 4294967296) ∧ SB w o.d o.l ∧ Byt o.l ∧ o.l.length ≤ 1048576

def isize (ops : List It) : Nat := (ops.map fun o => 47 + 8 * o.l.length).sum

def wid (o : It) : Nat := (o.n % 33).toNat
def low (o : It) : Int := o.v % 2 ^ wid o

theorem wid_le (o : It) : wid o ≤ 32 := by unfold wid; omega
theorem wid_eq (o : It) : o.n % 33 = (wid o : Int) := by unfold wid; omega

def layStep (row : List Int) (o : It) : List Int := if o.kind % 3 = 0 then row ++ bts (low o) (wid o) else if o.kind % 3 = 1 then pad row else pad row ++ unpack o.l
def layRow (ops : List It) : List Int := ops.foldl layStep []

theorem take_snoc {α : Type} {l : List α} {k : Nat} {o : α} (h : l[k]? = some o) : l.take (k + 1) = l.take k ++ [o] := by
  obtain ⟨hk, rfl⟩ := List.getElem?_eq_some_iff.1 h
  exact List.take_succ_eq_append_getElem hk

theorem layRow_snoc {ops : List It} {k : Nat} {o : It} (h : ops[k]? = some o) : layRow (ops.take (k + 1)) = layStep (layRow (ops.take k)) o := by
  unfold layRow
  rw [take_snoc h, List.foldl_append]
  rfl

theorem isize_snoc {ops : List It} {k : Nat} {o : It} (h : ops[k]? = some o) : isize (ops.take (k + 1)) = isize (ops.take k) + (47 + 8 * o.l.length) := by
  unfold isize
  rw [take_snoc h]
  simp

theorem isize_le (ops : List It) (k : Nat) : isize (ops.take k) ≤ isize ops := by
  have e : isize ops = isize (ops.take k) + isize (ops.drop k) := by
    unfold isize
    rw [← List.sum_append, ← List.map_append, List.take_append_drop]
  omega

theorem isize_bound {w : World} {ops : List It} (h : IOk w ops) : isize ops ≤ 8388655 * ops.length := by
  induction ops with
  | nil => simp [isize]
  | cons o r ih =>
    have h1 := (h o (by simp)).2.2.2
    have h2 := ih (fun x hx => h x (by simp [hx]))
    unfold isize at h2 ⊢
    simp only [List.map_cons, List.sum_cons, List.length_cons]
    omega

theorem IOk.take {w : World} {ops : List It} (h : IOk w ops) (k : Nat) : IOk w (ops.take k) := fun o ho => h o (List.mem_of_mem_take ho)

theorem layStep_len (row : List Int) (o : It) : (layStep row o).length ≤ row.length + (47 + 8 * o.l.length) := by
  have hw := wid_le o
  unfold layStep
  split
  · rw [List.length_append, length_bts]; omega
  · split
    · rw [length_pad]; omega
    · rw [List.length_append, length_pad, length_unpack]; omega

theorem layRow_len (ops : List It) (k : Nat) : (layRow (ops.take k)).length ≤ isize (ops.take k) := by
  induction k with
  | zero => simp [layRow, isize]
  | succ k ih =>
    by_cases hk : k < ops.length
    · obtain ⟨o, ho⟩ : ∃ o, ops[k]? = some o := ⟨ops[k], by simp [hk]⟩
      rw [layRow_snoc ho, isize_snoc ho]
      have := layStep_len (layRow (ops.take k)) o
      omega
    · rw [List.take_of_length_le (by omega)] at ih ⊢
      exact ih

theorem layStep_ext (row : List Int) (o : It) : ∃ s, layStep row o = row ++ s := by
  unfold layStep pad
  split
  · exact ⟨_, rfl⟩
  · split
    · exact ⟨_, rfl⟩
    · exact ⟨_, List.append_assoc _ _ _⟩

theorem fold_ext (ops : List It) : ∀ row, ∃ s, ops.foldl layStep row = row ++ s := by
  induction ops with
  | nil => intro row; exact ⟨[], by simp⟩
  | cons o r ih =>
    intro row
    obtain ⟨s1, h1⟩ := layStep_ext row o
    obtain ⟨s2, h2⟩ := ih (layStep row o)
    exact ⟨s1 ++ s2, by rw [List.foldl_cons, h2, h1, List.append_assoc]⟩

theorem layRow_ext (ops : List It) (k : Nat) : ∃ s, layRow ops = layRow (ops.take k) ++ s := by
  obtain ⟨s, h⟩ := fold_ext (ops.drop k) (layRow (ops.take k))
  refine ⟨s, ?_⟩
  rw [← h]
  unfold layRow
  rw [← List.foldl_append, List.take_append_drop]

theorem Herd.pop {W w : World} {xs : List ((Nat → Nat) × Thing)} {y : (Nat → Nat) × Thing} (h : Herd W w (xs ++ [y])) : Herd W w xs := by
  have e : ∀ (i : Nat) (d : (Nat → Nat) × Thing), xs[i]? = some d → (xs ++ [y])[i]? = some d := fun i d hd => by
    rw [List.getElem?_append_left (List.getElem?_eq_some_iff.1 hd).1]; exact hd
  exact ⟨h.bel, fun i d hd => h.rep i d (e i d hd), fun i d hd => h.up i d (e i d hd), fun i j d d' hd hd' => h.sep i j d d' (e i d hd) (e j d' hd')⟩

theorem Herd.box {W w : World} {xs : List ((Nat → Nat) × Thing)} (H : Herd W w xs) (i : Nat) {K : Nat → Nat} {B T : Nat} {cs : Array Value} (hi : xs[i]? = some (K, tb B (.cells cs T (0, 0)))) (j : Nat) : w.cell? ⟨B, j, none⟩ = cs[j]? := by
  have h : (tb B (.cells cs T (0, 0))).P w K := H.rep i _ hi
  have h1 : w.heap[B]? = some (.cells cs T (0, 0)) := h.1
  simp [World.cell?, h1]

/-- A block just made comes in. -/
theorem Herd.alloc {W w : World} {xs : List ((Nat → Nat) × Thing)} (h : Herd W w xs) (o : Obj) : ∃ K, Herd W (w.alloc o) (xs ++ [(K, tb w.heap.size o)]) := by
  refine ⟨fun k => if k = w.heap.size then 1 else 0, h.push ((Below.refl _ _).alloc (Nat.le_refl _) _) ⟨heap_alloc_new w o, by simp, fun k hk => ?_⟩ fun k hk => ?_⟩
  · by_cases e : k = w.heap.size
    · rw [e, size_alloc']; omega
    · simp [e] at hk
  · by_cases e : k = w.heap.size
    · omega
    · simp [e] at hk

/-- What an item shows in a later world. -/
theorem ISc.item {W w : World} {ao : Option Addr} {cap : Nat} {ops : List It} (h : ISc W (.slice ao ops.length cap) ops) (hb : Below W.heap.size W w) {k : Nat} {o : It} (ho : ops[k]? = some o) :
    ∃ b of, ao = some ⟨b, of, none⟩ ∧ w.cell? ⟨b, of + k * 4, none⟩ = some (.int .i64 o.kind) ∧ w.cell? ⟨b, of + k * 4 + 1, none⟩ = some (.int .u32 o.v) ∧ w.cell? ⟨b, of + k * 4 + 2, none⟩ = some (.int .i64 o.n) ∧ w.cell? ⟨b, of + k * 4 + 3, none⟩ = some o.d := by
  obtain ⟨ao', cap', hue, hc1, hc2, hc3⟩ := h
  simp only [Value.slice.injEq] at hue
  obtain ⟨rfl, -, rfl⟩ := hue
  obtain ⟨b, of, rfl, h0, h1, h2, h3⟩ := hc3 k o ho
  have hk : ∀ {i : Nat} {u : Value}, W.cell? ⟨b, i, none⟩ = some u → w.cell? ⟨b, i, none⟩ = some u := fun hc => (hb.cell (World.block_lt_of_cell? _ _ hc)).trans hc
  exact ⟨b, of, rfl, hk h0, hk h1, hk h2, hk h3⟩

theorem ISc.len {w : World} {v : Value} {ops : List It} (h : ISc w v ops) : ∃ a c, v = .slice a ops.length c ∧ ops.length ≤ c ∧ c ≤ 9223372036854775807 := by
  obtain ⟨a, c, h, h1, h2, _⟩ := h
  unfold maxLen at h2
  exact ⟨a, c, h, h1, h2⟩

end Go.Proofs.YtpmgnpfpnkmmbaaGreatDoor

namespace Go.Proofs.YtpmgnpfpnkmmbaaGreatDoor
open Go.RowKit Go.Maps
set_option maxRecDepth 20000

/-- Where the bits of the next item lie. -/
theorem drop_at {U a b c : List Int} (h : U = a ++ (b ++ c)) : U.drop a.length = b ++ c := by
  rw [h, List.drop_left' rfl]

theorem rraw_ok {U : List Int} {p n : Nat} (hp : p ≤ U.length) (h8 : p % 8 = 0) {l rest : List Int} (hl : l.length = n) (hB : Byt l) (hd : U.drop p = unpack l ++ rest) : rrawE U p n = 0 ∧ rrawL U p n = l ∧ rrawP U p n = p + 8 * n := by
  have hlen : U.length - p = 8 * n + rest.length := by
    have := congrArg List.length hd
    rwa [List.length_drop, List.length_append, length_unpack, hl] at this
  have he : rrawE U p n = 0 := by
    unfold rrawE
    rw [if_neg (by omega), if_neg (by omega)]
    rw [if_pos (by omega)]
  refine ⟨he, ?_, by unfold rrawP; rw [if_pos he]; rfl⟩
  unfold rrawL
  rw [if_pos he, hd, Int.toNat_natCast, List.take_append_of_le_length (by rw [length_unpack, hl]; exact Nat.le_refl _), List.take_of_length_le (by rw [length_unpack, hl]; exact Nat.le_refl _), pack_unpack hB]

theorem Herd.only {W w : World} {xs : List ((Nat → Nat) × Thing)} (h : Herd W w xs) (i : Nat) {d : (Nat → Nat) × Thing} (hi : xs[i]? = some d) : Herd W w [d] := by
  have e : ∀ (j : Nat) (d' : (Nat → Nat) × Thing), [d][j]? = some d' → j = 0 ∧ d' = d := fun j d' h => by
    cases j with
    | zero => simp at h; exact ⟨rfl, h.symm⟩
    | succ j => simp at h
  refine ⟨h.bel, fun j d' hd => ?_, fun j d' hd => ?_, fun j j' d' e' hd he hne => ?_⟩
  · obtain ⟨_, rfl⟩ := e j d' hd; exact h.rep i _ hi
  · obtain ⟨_, rfl⟩ := e j d' hd; exact h.up i _ hi
  · have := (e j d' hd).1; have := (e j' e' he).1; omega

/-- The row behind an item. -/
theorem row_at {ops : List It} {U rest : List Int} (hU : U = layRow ops ++ rest) {k : Nat} {o : It} (ho : ops[k]? = some o) : ∃ s, U = layStep (layRow (ops.take k)) o ++ s := by
  obtain ⟨s, hs⟩ := layRow_ext ops (k + 1)
  rw [layRow_snoc ho] at hs
  exact ⟨s ++ rest, by rw [hU, hs, List.append_assoc]⟩

end Go.Proofs.YtpmgnpfpnkmmbaaGreatDoor

namespace Go.Proofs.YtpmgnpfpnkmmbaaGreatDoor
open Go.RowKit Go.Maps
set_option maxRecDepth 20000

/-- A reader of the document's. -/
def tq (g : Nat) (row : List Int) (p : Nat) : Thing := ⟨fun w K => Rq w K g row p, fun h a b => h.far a b, fun h => h.sup⟩

theorem hqnew {W w : World} {xs : List ((Nat → Nat) × Thing)} (H : Herd W w xs) (u : Value) (l : List Int) (h : SB w u l) (hB : Byt l) (hl : l.length ≤ 33554432) :
    Calls Tryz.prog 38 #[u] w fun e w' => ∃ g K, e = .returned (.pointer (some ⟨g, 0, none⟩)) ∧ Herd W w' (xs ++ [(K, tq g (unpack l) 0)]) := by
  refine (qnewReader_any u l w h hB hl).mono ?_
  rintro e w1 ⟨g, K, rfl, hR, hn, hb⟩
  exact ⟨g, K, rfl, H.push hb hR hn⟩

theorem hqtake {W w : World} {xs : List ((Nat → Nat) × Thing)} (H : Herd W w xs) (i : Nat) {K : Nat → Nat} {g : Nat} {row : List Int} {p : Nat} (hi : xs[i]? = some (K, tq g row p)) (n : Int) :
    Calls Tryz.prog 55 #[.pointer (some ⟨g, 0, none⟩), .int .i64 n] w fun e w' => e = .returned (.tuple #[.int .u32 (takeV row p n), .int .i64 (takeE row p n)]) ∧ Herd W w' (xs.set i (K, tq g row (takeP row p n))) := by
  have hw : Rq w K g row p := H.rep i _ hi
  refine (qtake_any hw n).mono ?_
  rintro e w1 ⟨rfl, h1, h2⟩
  exact ⟨rfl, H.op i hi (x' := tq g row (takeP row p n)) h1 h2⟩

theorem hqpeek {W w : World} {xs : List ((Nat → Nat) × Thing)} (H : Herd W w xs) (i : Nat) {K : Nat → Nat} {g : Nat} {row : List Int} {p : Nat} (hi : xs[i]? = some (K, tq g row p)) (n : Int) :
    Calls Tryz.prog 74 #[.pointer (some ⟨g, 0, none⟩), .int .i64 n] w fun e w' => e = .returned (.tuple #[.int .u32 (peekV row p n), .int .i64 (peekK row p n)]) ∧ Herd W w' xs := by
  have hw : Rq w K g row p := H.rep i _ hi
  refine (qpeek_any hw n).mono ?_
  rintro e w1 ⟨rfl, q, rfl⟩
  exact ⟨rfl, H.drewN q⟩

theorem hqskip {W w : World} {xs : List ((Nat → Nat) × Thing)} (H : Herd W w xs) (i : Nat) {K : Nat → Nat} {g : Nat} {row : List Int} {p : Nat} (hi : xs[i]? = some (K, tq g row p)) (n : Int) :
    Calls Tryz.prog 110 #[.pointer (some ⟨g, 0, none⟩), .int .i64 n] w fun e w' => e = .returned (.int .i64 (skipE row p n)) ∧ Herd W w' (xs.set i (K, tq g row (skipP row p n))) := by
  have hw : Rq w K g row p := H.rep i _ hi
  refine (qskip_any hw n).mono ?_
  rintro e w1 ⟨rfl, h1, h2⟩
  exact ⟨rfl, H.op i hi (x' := tq g row (skipP row p n)) h1 h2⟩

theorem hqalign {W w : World} {xs : List ((Nat → Nat) × Thing)} (H : Herd W w xs) (i : Nat) {K : Nat → Nat} {g : Nat} {row : List Int} {p : Nat} (hi : xs[i]? = some (K, tq g row p)) :
    Calls Tryz.prog 75 #[.pointer (some ⟨g, 0, none⟩)] w fun e w' => e = .returned (.tuple #[]) ∧ Herd W w' (xs.set i (K, tq g row (algn p))) := by
  have hw : Rq w K g row p := H.rep i _ hi
  refine (qalign_any hw).mono ?_
  rintro e w1 ⟨rfl, h1, h2⟩
  exact ⟨rfl, H.op i hi (x' := tq g row (algn p)) h1 h2⟩

theorem hqat {W w : World} {xs : List ((Nat → Nat) × Thing)} (H : Herd W w xs) (i : Nat) {K : Nat → Nat} {g : Nat} {row : List Int} {p : Nat} (hi : xs[i]? = some (K, tq g row p)) :
    Calls Tryz.prog 54 #[.pointer (some ⟨g, 0, none⟩)] w fun e w' => e = .returned (.int .i64 p) ∧ Herd W w' xs := by
  have hw : Rq w K g row p := H.rep i _ hi
  refine (qat_any hw).mono ?_
  rintro e w1 ⟨rfl, rfl⟩
  exact ⟨rfl, H⟩

theorem hqleft {W w : World} {xs : List ((Nat → Nat) × Thing)} (H : Herd W w xs) (i : Nat) {K : Nat → Nat} {g : Nat} {row : List Int} {p : Nat} (hi : xs[i]? = some (K, tq g row p)) :
    Calls Tryz.prog 76 #[.pointer (some ⟨g, 0, none⟩)] w fun e w' => e = .returned (.int .i64 ((row.length : Int) - p)) ∧ Herd W w' xs := by
  have hw : Rq w K g row p := H.rep i _ hi
  refine (qleft_any hw).mono ?_
  rintro e w1 ⟨rfl, q, rfl⟩
  exact ⟨rfl, H.drewN q⟩

/-- A list that a call made beside what it did to its own. -/
theorem Herd.oplist {W w w' : World} {xs : List ((Nat → Nat) × Thing)} (H : Herd W w xs) (i : Nat) {K : Nat → Nat} {x x' : Thing} (hi : xs[i]? = some (K, x)) (h1 : x'.P w' K) (h2 : Fr K K w w') {v : Value} {l : List Int} (h0 : OB w' w.heap.size v l) :
    ∃ K', Herd W w' (xs.set i (K, x') ++ [(K', tl v l)]) := by
  have hw := H.rep i _ hi
  have H1 := H.op i hi (x' := x') h1 h2
  refine ⟨fun k => if v.ownBlock = some k then 1 else 0, H1.bel, fun j d hd => ?_, fun j d hd k hk => ?_, fun j j' d e hd he hne k hk => ?_⟩
  · rcases get_snoc hd with hd | ⟨_, rfl⟩
    · exact H1.rep j d hd
    · refine ⟨h0.base (Nat.zero_le _), fun k hk => by simp [hk], fun k hk => ?_⟩
      by_cases e : v.ownBlock = some k
      · exact (h0.lt k e).2
      · simp [e] at hk
  · rcases get_snoc hd with hd | ⟨_, rfl⟩
    · exact H1.up j d hd k hk
    · by_cases e : v.ownBlock = some k
      · have := (h0.lt k e).1; have := H.bel.size; omega
      · simp [e] at hk
  · have old : ∀ j' (e' : (Nat → Nat) × Thing), (xs.set i (K, x'))[j']? = some e' → ∀ k, e'.1 k ≠ 0 → k < w.heap.size := fun j' e' he' k hk => by
      rcases get_set he' with ⟨_, he2⟩ | ⟨_, rfl⟩
      · exact e'.2.sup (H.rep j' e' he2) k hk
      · exact x.sup hw k hk
    rcases get_snoc hd with hd | ⟨e1, rfl⟩
    · rcases get_snoc he with he | ⟨e2, rfl⟩
      · exact H1.sep j j' d e hd he hne k hk
      · by_cases e0 : v.ownBlock = some k
        · have := (h0.lt k e0).1; have := old j d hd k hk; omega
        · simp [e0]
    · rcases get_snoc he with he | ⟨e2, rfl⟩
      · by_cases e0 : v.ownBlock = some k
        · by_cases ez : e.1 k = 0
          · exact ez
          · have := (h0.lt k e0).1; have := old j' e he k ez; omega
        · simp [e0] at hk
      · omega

end Go.Proofs.YtpmgnpfpnkmmbaaGreatDoor

namespace Go.Proofs.YtpmgnpfpnkmmbaaGreatDoor
open Go.RowKit Go.Maps
set_option maxRecDepth 20000

/-- The document's decoder. -/
structure Dx (w : World) (K : Nat → Nat) (g : Nat) (l : List Int) : Prop where
  d : ∃ vl vw, w.heap[g]? = some (.cells #[vl, vw, .int .i64 (shp l)] 147 (0, 0)) ∧ OI w 0 vl l ∧ OI w 0 vw (wds l) ∧ (∀ k, vl.ownBlock = some k → K k ≠ 0) ∧ (∀ k, vw.ownBlock = some k → K k ≠ 0)
  k : K g ≠ 0
  sup : ∀ k, K k ≠ 0 → k < w.heap.size
  ok : dcE l = 0

theorem Dx.far {w w' : World} {K : Nat → Nat} {g : Nat} {l : List Int} (h : Dx w K g l) (hsz : w.heap.size ≤ w'.heap.size) (hb : ∀ k, K k ≠ 0 → w'.heap[k]? = w.heap[k]?) : Dx w' K g l := by
  obtain ⟨vl, vw, a1, a2, a3, a4, a5⟩ := h.d
  exact ⟨⟨vl, vw, (hb g h.k).trans a1, a2.move fun k hk => hb k (a4 k hk), a3.move fun k hk => hb k (a5 k hk), a4, a5⟩, h.k, fun k hk => Nat.lt_of_lt_of_le (h.sup k hk) hsz, h.ok⟩

def tdx (g : Nat) (l : List Int) : Thing := ⟨fun w K => Dx w K g l, fun h a b => h.far a b, fun h => h.sup⟩

def MadeDx (w : World) (l : List Int) (e : Ending) (w' : World) : Prop := Below w.heap.size w w' ∧ ((dcE l ≠ 0 ∧ e = .returned (.tuple #[.pointer none, .int .i64 (dcE l)])) ∨ (dcE l = 0 ∧ ∃ g K, e = .returned (.tuple #[.pointer (some ⟨g, 0, none⟩), .int .i64 0]) ∧ Dx w' K g l ∧ ∀ k, K k ≠ 0 → w.heap.size ≤ k))

theorem cd_of_dc {l : List Int} (h : dcE l = 0) : cdE l = 0 ∧ cdL l = wds l := by
  obtain ⟨h1, h2⟩ := (dcE_iff l).1 h
  have e : cdE l = 0 := by unfold cdE; rw [if_neg (by simp [h1]), if_neg (by omega)]
  exact ⟨e, if_pos e⟩

set_option maxHeartbeats 1000000 in
theorem xnewDecoder_any (v : Value) (l : List Int) (w : World) (h : SI w v l) :
    Calls Tryz.prog 77 #[v] w fun e w' => MadeDx w l e w' := by
  have HS := hide h
  obtain ⟨ao, cap, rfl, hlc, hcm⟩ := h.open
  clear h
  by_cases h0 : chkE l = 0
  case neg =>
    have h1 : (chkE l == 0) = false := by simpa using h0
    have hb : bkE l = chkE l := if_pos h0
    have hE : dcE l = chkE l := by unfold dcE; rw [if_pos (by rw [hb]; exact h0), hb]
    have HE := hide hE
    have HNE : Hid (dcE l ≠ 0) := by show _ ≠ _; rw [hE]; exact h0
    obtain ⟨q, HQ⟩ : ∃ q, Hid (q = chkE l) := ⟨_, rfl⟩
    obtain ⟨r, HR⟩ : ∃ q, Hid (q = chkS l) := ⟨_, rfl⟩
    rw [← HQ.out] at h0 h1 HE
    clear hb hE
    go_enter Tryz.func77, Tryz.ntmps77
    go_wp2_with fail
    refine (xcheck_any _ l _ HS.out).mono ?_
    rintro e w1 ⟨rfl, rfl⟩
    rw [← HQ.out, ← HR.out]
    go_wp2
    go_ret2
    exact ⟨Below.refl _ _, .inl ⟨HNE.out, by rw [HE.out]; rfl⟩⟩
  obtain ⟨hl, hs⟩ := chkE_zero h0
  have HL := hide hl
  have h288 := hl.1
  have HR := hide hs
  have HQ := hide h0
  have hbk : bkE l = if shp l = 2 then 52 else if shp l = 3 then 51 else 0 := by unfold bkE; rw [if_neg (by simp [h0])]
  clear hl hs h0
  by_cases c0 : shp l = 0
  · have hE : dcE l = 53 := by unfold dcE; rw [if_neg (by rw [hbk, if_neg (by omega), if_neg (by omega)]; simp), if_pos c0]
    have HE := hide hE
    clear hE hbk
    go_enter Tryz.func77, Tryz.ntmps77
    go_wp2_with fail
    refine (xcheck_any _ l _ HS.out).mono ?_
    rintro e w1 ⟨rfl, rfl⟩
    rw [HQ.out, HR.out, c0]
    go_wp2
    go_ret2
    exact ⟨Below.refl _ _, .inl ⟨by rw [HE.out]; decide, by rw [HE.out]; rfl⟩⟩
  by_cases c2 : shp l = 2
  · have hE : dcE l = 52 := by unfold dcE; rw [if_pos (by rw [hbk, if_pos c2]; decide), hbk, if_pos c2]
    have HE := hide hE
    clear hE hbk c0
    go_enter Tryz.func77, Tryz.ntmps77
    go_wp2_with fail
    refine (xcheck_any _ l _ HS.out).mono ?_
    rintro e w1 ⟨rfl, rfl⟩
    rw [HQ.out, HR.out, c2]
    go_wp2
    go_ret2
    exact ⟨Below.refl _ _, .inl ⟨by rw [HE.out]; decide, by rw [HE.out]; rfl⟩⟩
  by_cases c3 : shp l = 3
  · have hE : dcE l = 51 := by unfold dcE; rw [if_pos (by rw [hbk, if_neg c2, if_pos c3]; decide), hbk, if_neg c2, if_pos c3]
    have HE := hide hE
    clear hE hbk c0 c2
    go_enter Tryz.func77, Tryz.ntmps77
    go_wp2_with fail
    refine (xcheck_any _ l _ HS.out).mono ?_
    rintro e w1 ⟨rfl, rfl⟩
    rw [HQ.out, HR.out, c3]
    go_wp2
    go_ret2
    exact ⟨Below.refl _ _, .inl ⟨by rw [HE.out]; decide, by rw [HE.out]; rfl⟩⟩
  have hE : dcE l = 0 := by unfold dcE; rw [if_neg (by rw [hbk, if_neg c2, if_neg c3]; simp), if_neg c0]
  have HE := hide hE
  have HCD := hide (cd_of_dc hE)
  obtain ⟨r, HR2⟩ : ∃ q, Hid (q = shp l) := ⟨_, rfl⟩
  rw [← HR2.out] at c0 c2 c3
  have c0' : (r == 0) = false := by simpa using c0
  have c2' : (r == 2) = false := by simpa using c2
  have c3' : (r == 3) = false := by simpa using c3
  clear hE hbk
  go_enter Tryz.func77, Tryz.ntmps77
  go_wp2_with fail
  refine (xcheck_any _ l _ HS.out).mono ?_
  rintro e w1 ⟨rfl, rfl⟩
  rw [HQ.out, HR.out, ← HR2.out]
  go_wp2_with fail
  refine (xcodes_any _ l _ HS.out).mono ?_
  rintro e w2 ⟨a2, c2, rfl, ho2, hb2⟩
  rw [HCD.out.2, wds_len] at ho2
  rw [HCD.out.1, HCD.out.2, wds_len]
  have HO2 := hide ho2
  have HB2 := hide hb2
  have HS2 := hide (HS.out.below hb2)
  clear ho2 hb2
  obtain ⟨V, HV⟩ : ∃ V, Hid (V = w2.alloc (.cells #[.slice none 0 0, .slice a2 l.length c2, .int .i64 r] 147)) := ⟨_, rfl⟩
  have hbox : V.heap[w2.heap.size]? = some (.cells #[.slice none 0 0, .slice a2 l.length c2, .int .i64 r] 147 (0, 0)) := by rw [HV.out]; exact heap_alloc_new w2 _
  have hbV : Below w2.heap.size w2 V := by rw [HV.out]; exact (Below.refl _ _).alloc (Nat.le_refl _) _
  have HBOX := hide hbox
  have HSR : Hid (Src Tryz.prog 1 81 (.slice ao l.length cap) l.length (l.map (Value.int .i64)) (w2.alloc (.cells #[.slice none 0 0, .slice a2 l.length c2, .int .i64 r] 147))) := by rw [← HV.out]; exact (HS2.out.below hbV).src
  have HOV := hide (HO2.out.below hbV (Nat.le_refl _))
  have HBV := hide (HB2.out.trans (hbV.mono HB2.out.size))
  have HSZ : Hid (V.heap.size = w2.heap.size + 1) := by show _ = _; rw [HV.out]; simp
  have hw12 : w1.heap.size ≤ w2.heap.size := HB2.out.size
  clear hbox hbV
  go_wp2_with (at_builtin; refine wpList_appI rfl _ _ 81 rfl w1.heap.size _ _ [] l rfl (World.ownsRow_nil _ _ _ _) rfl HSR.out (by simp; omega) (by simp; omega) ?_)
  rw [← HV.out]
  intro v3 w3 ho3 hgr3
  have hB3 : w3.heap[w2.heap.size]? = some (.cells #[.slice none 0 0, .slice a2 l.length c2, .int .i64 r] 147 (0, 0)) := (hgr3.by.block _ (by rw [HSZ.out]; omega) (by simp [Value.ownBlock])).trans HBOX.out
  have k0 : w3.cell? ⟨w2.heap.size, 0, none⟩ = some (.slice none 0 0) := by rw [cell_of_row _ _ _ _ _ _ hB3]; rfl
  have f0 : w3.frozen? ⟨w2.heap.size, 0, none⟩ = false := frozen_of_row _ _ _ _ _ hB3
  obtain ⟨a3, c3', hv3⟩ := ho3.shape
  have HF : Hid (MadeDx w1 l (.returned (.tuple #[.pointer (some ⟨w2.heap.size, 0, none⟩), .int .i64 0])) (w3.setCell ⟨w2.heap.size, 0, none⟩ v3)) := by
    have hnb : ∀ k, v3.ownBlock = some k → k ≠ w2.heap.size := fun k hk e => by
      rcases hgr3.at with h | h
      · rw [h, HSZ.out] at hk; simp at hk; omega
      · rw [h] at hk; simp [Value.ownBlock] at hk
    have p1 : OI (w3.setCell ⟨w2.heap.size, 0, none⟩ v3) w1.heap.size v3 l := (show OI w3 w1.heap.size v3 l from ho3).move fun k hk => setCell_others w3 _ _ _ _ (hnb k hk)
    have q2 : OI w3 w1.heap.size (.slice a2 l.length c2) (wds l) := HOV.out.move fun k hk => hgr3.by.block k (HOV.out.lt k hk).2 (by simp [Value.ownBlock])
    have p2 : OI (w3.setCell ⟨w2.heap.size, 0, none⟩ v3) w1.heap.size (.slice a2 l.length c2) (wds l) := q2.move fun k hk => setCell_others w3 _ _ _ _ (fun e => by have := (HO2.out.lt k hk).2; omega)
    have hsz3 : w2.heap.size < w3.heap.size := by have := hgr3.by.size; rw [HSZ.out] at this; omega
    have hbel : Below w1.heap.size w1 (w3.setCell ⟨w2.heap.size, 0, none⟩ v3) := by
      have h1 : Below w1.heap.size w1 w3 := HBV.out.grown hgr3.by HBV.out.size (fun k hk => by simp [Value.ownBlock] at hk)
      exact h1.setCell (by show _ ≤ w2.heap.size; omega) _
    refine ⟨hbel, .inr ⟨HE.out, w2.heap.size, fun k => if k = w2.heap.size ∨ v3.ownBlock = some k ∨ (Value.slice a2 l.length c2).ownBlock = some k then 1 else 0, rfl, ⟨⟨v3, .slice a2 l.length c2, ?_, p1.base (Nat.zero_le _), p2.base (Nat.zero_le _), fun k hk => by simp [hk], fun k hk => by simp [hk]⟩, by simp, fun k hk => ?_, HE.out⟩, fun k hk => ?_⟩⟩
    · rw [heap_setCell_same _ _ _ _ _ _ hB3, ← HR2.out]; rfl
    · by_cases c : k = w2.heap.size ∨ v3.ownBlock = some k ∨ (Value.slice a2 l.length c2).ownBlock = some k
      · rcases c with rfl | c | c
        · rw [size_setCell]; exact hsz3
        · exact (p1.lt k c).2
        · exact (p2.lt k c).2
      · simp [c] at hk
    · by_cases c : k = w2.heap.size ∨ v3.ownBlock = some k ∨ (Value.slice a2 l.length c2).ownBlock = some k
      · rcases c with rfl | c | c
        · exact hw12
        · exact (p1.lt k c).1
        · exact (p2.lt k c).1
      · simp [c] at hk
  subst hv3
  clear ho3 hgr3 hB3
  go_wp2
  go_ret2
  exact HF.out

/-- The first symbol of a length with a word. -/
def At (l : List Int) (n y s : Nat) : Prop := s < l.length ∧ ln l s = n ∧ wd l s = y

theorem at_hit {l : List Int} (v : Int) {n s : Nat} (hn : n ≤ 15) (h0 : 0 < n) {y : Nat} (hy : mir v n = (y : Int)) : At l n y s ↔ Hit l (rowN v) s ∧ ln l s = n := by
  have hr := mir_row v hn
  rw [hy] at hr
  have hr' : rowN v / 2 ^ (15 - n) = y := by exact_mod_cast hr.symm
  rw [hit_iff]
  constructor
  · rintro ⟨h1, h2, h3⟩
    exact ⟨⟨⟨h1, by omega⟩, by rw [h2, h3]; exact hr'⟩, h2⟩
  · rintro ⟨⟨h1, h2⟩, h3⟩
    exact ⟨h1.1, h3, by rw [← h2, h3]; exact hr'⟩

theorem ahead_mod {row : List Int} (hb : Bit row) (p : Nat) {n : Nat} (h : n ≤ 15) : bts (ahead row p n) n = bts (ahead row p 15) n := by
  have e : ahead row p n = ahead row p 15 % 2 ^ n := by
    unfold ahead
    rw [← val_take ((hb.drop p).take 15), List.take_take, Nat.min_eq_left h]
  rw [e, bts_mod]

theorem mir_ahead {row : List Int} (hb : Bit row) (p : Nat) {n : Nat} (h : n ≤ 15) : mir (ahead row p n) n = mir (ahead row p 15) n := by unfold mir; rw [ahead_mod hb p h]

theorem top_bit {v : Int} {n : Nat} (h0 : 0 ≤ v) (h1 : v < 2 ^ (n + 1)) : v / 2 ^ n = v / 2 ^ n % 2 := by
  have hp := pow_pos n
  rw [pow_add1] at h1
  have : v / 2 ^ n < 2 := by rw [Int.ediv_lt_iff_lt_mul hp]; omega
  have h2 := Int.ediv_nonneg h0 (Int.le_of_lt hp)
  omega
end Go.Proofs.YtpmgnpfpnkmmbaaGreatDoor

