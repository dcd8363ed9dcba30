import Derived.Test.YtklffkbcigehfabFact
import Derived.Test.YtklffkbcigehfabHerdJ
namespace Go.Proofs.Ytklffkbcigehfab
open Go.RowKit Go.Maps
set_option maxRecDepth 20000

structure It where
  kind : Int
  v : Int
  n : Int
  d : Value
  l : List Int

/-- The items in memory. -/
def ISc (w : World) (v : Value) (ops : List It) : Prop :=
  ∃ ao cap, v = .slice ao ops.length cap ∧ ops.length ≤ cap ∧ cap ≤ maxLen ∧ ∀ (i : Nat) (o : It), ops[i]? = some o → ∃ b of, ao = some ⟨b, of, none⟩ ∧ w.cell? ⟨b, of + i * 4, none⟩ = some (.int .i64 o.kind) ∧ w.cell? ⟨b, of + i * 4 + 1, none⟩ = some (.int .u32 o.v) ∧ w.cell? ⟨b, of + i * 4 + 2, none⟩ = some (.int .i64 o.n) ∧ w.cell? ⟨b, of + i * 4 + 3, none⟩ = some o.d

def IOk (w : World) (ops : List It) : Prop := ∀ o ∈ ops, (0 ≤ o.v ∧ o.v < 4294967296) ∧ SB w o.d o.l ∧ Byt o.l ∧ o.l.length ≤ 1048576

def isize (ops : List It) : Nat := (ops.map fun o => 47 + 8 * o.l.length).sum

def wid (o : It) : Nat := (o.n % 33).toNat
def low (o : It) : Int := o.v % 2 ^ wid o

theorem wid_le (o : It) : wid o ≤ 32 := by unfold wid; omega
theorem wid_eq (o : It) : o.n % 33 = (wid o : Int) := by unfold wid; omega

def layStep (row : List Int) (o : It) : List Int := if o.kind % 3 = 0 then row ++ bts (low o) (wid o) else if o.kind % 3 = 1 then pad row else pad row ++ unpack o.l
def layRow (ops : List It) : List Int := ops.foldl layStep []

theorem take_snoc {α : Type} {l : List α} {k : Nat} {o : α} (h : l[k]? = some o) : l.take (k + 1) = l.take k ++ [o] := by
  obtain ⟨hk, rfl⟩ := List.getElem?_eq_some_iff.1 h
  exact List.take_succ_eq_append_getElem hk

theorem layRow_snoc {ops : List It} {k : Nat} {o : It} (h : ops[k]? = some o) : layRow (ops.take (k + 1)) = layStep (layRow (ops.take k)) o := by
  unfold layRow
  rw [take_snoc h, List.foldl_append]
  rfl

theorem isize_snoc {ops : List It} {k : Nat} {o : It} (h : ops[k]? = some o) : isize (ops.take (k + 1)) = isize (ops.take k) + (47 + 8 * o.l.length) := by
  unfold isize
  rw [take_snoc h]
  simp

theorem isize_le (ops : List It) (k : Nat) : isize (ops.take k) ≤ isize ops := by
  have e : isize ops = isize (ops.take k) + isize (ops.drop k) := by
    unfold isize
    rw [← List.sum_append, ← List.map_append, List.take_append_drop]
  omega

theorem isize_bound {w : World} {ops : List It} (h : IOk w ops) : isize ops ≤ 8388655 * ops.length := by
  induction ops with
  | nil => simp [isize]
  | cons o r ih =>
    have h1 := (h o (by simp)).2.2.2
    have h2 := ih (fun x hx => h x (by simp [hx]))
    unfold isize at h2 ⊢
    simp only [List.map_cons, List.sum_cons, List.length_cons]
    omega

theorem IOk.take {w : World} {ops : List It} (h : IOk w ops) (k : Nat) : IOk w (ops.take k) := fun o ho => h o (List.mem_of_mem_take ho)

theorem layStep_len (row : List Int) (o : It) : (layStep row o).length ≤ row.length + (47 + 8 * o.l.length) := by
  have hw := wid_le o
  unfold layStep
  split
  · rw [List.length_append, length_bts]; omega
  · split
    · rw [length_pad]; omega
    · rw [List.length_append, length_pad, length_unpack]; omega

theorem layRow_len (ops : List It) (k : Nat) : (layRow (ops.take k)).length ≤ isize (ops.take k) := by
  induction k with
  | zero => simp [layRow, isize]
  | succ k ih =>
    by_cases hk : k < ops.length
    · obtain ⟨o, ho⟩ : ∃ o, ops[k]? = some o := ⟨ops[k], by simp [hk]⟩
      rw [layRow_snoc ho, isize_snoc ho]
      have := layStep_len (layRow (ops.take k)) o
      omega
    · rw [List.take_of_length_le (by omega)] at ih ⊢
      exact ih

theorem layStep_ext (row : List Int) (o : It) : ∃ s, layStep row o = row ++ s := by
  unfold layStep pad
  split
  · exact ⟨_, rfl⟩
  · split
    · exact ⟨_, rfl⟩
    · exact ⟨_, List.append_assoc _ _ _⟩

theorem fold_ext (ops : List It) : ∀ row, ∃ s, ops.foldl layStep row = row ++ s := by
  induction ops with
  | nil => intro row; exact ⟨[], by simp⟩
  | cons o r ih =>
    intro row
    obtain ⟨s1, h1⟩ := layStep_ext row o
    obtain ⟨s2, h2⟩ := ih (layStep row o)
    exact ⟨s1 ++ s2, by rw [List.foldl_cons, h2, h1, List.append_assoc]⟩

theorem layRow_ext (ops : List It) (k : Nat) : ∃ s, layRow ops = layRow (ops.take k) ++ s := by
  obtain ⟨s, h⟩ := fold_ext (ops.drop k) (layRow (ops.take k))
  refine ⟨s, ?_⟩
  rw [← h]
  unfold layRow
  rw [← List.foldl_append, List.take_append_drop]

theorem Herd.pop {W w : World} {xs : List ((Nat → Nat) × Thing)} {y : (Nat → Nat) × Thing} (h : Herd W w (xs ++ [y])) : Herd W w xs := by
  have e : ∀ (i : Nat) (d : (Nat → Nat) × Thing), xs[i]? = some d → (xs ++ [y])[i]? = some d := fun i d hd => by
    rw [List.getElem?_append_left (List.getElem?_eq_some_iff.1 hd).1]; exact hd
  exact ⟨h.bel, fun i d hd => h.rep i d (e i d hd), fun i d hd => h.up i d (e i d hd), fun i j d d' hd hd' => h.sep i j d d' (e i d hd) (e j d' hd')⟩

theorem Herd.box {W w : World} {xs : List ((Nat → Nat) × Thing)} (H : Herd W w xs) (i : Nat) {K : Nat → Nat} {B T : Nat} {cs : Array Value} (hi : xs[i]? = some (K, tb B (.cells cs T (0, 0)))) (j : Nat) : w.cell? ⟨B, j, none⟩ = cs[j]? := by
  have h : (tb B (.cells cs T (0, 0))).P w K := H.rep i _ hi
  have h1 : w.heap[B]? = some (.cells cs T (0, 0)) := h.1
  simp [World.cell?, h1]

/-- A block just made comes in. -/
theorem Herd.alloc {W w : World} {xs : List ((Nat → Nat) × Thing)} (h : Herd W w xs) (o : Obj) : ∃ K, Herd W (w.alloc o) (xs ++ [(K, tb w.heap.size o)]) := by
  refine ⟨fun k => if k = w.heap.size then 1 else 0, h.push ((Below.refl _ _).alloc (Nat.le_refl _) _) ⟨heap_alloc_new w o, by simp, fun k hk => ?_⟩ fun k hk => ?_⟩
  · by_cases e : k = w.heap.size
    · rw [e, size_alloc']; omega
    · simp [e] at hk
  · by_cases e : k = w.heap.size
    · omega
    · simp [e] at hk

/-- What an item shows in a later world. -/
theorem ISc.item {W w : World} {ao : Option Addr} {cap : Nat} {ops : List It} (h : ISc W (.slice ao ops.length cap) ops) (hb : Below W.heap.size W w) {k : Nat} {o : It} (ho : ops[k]? = some o) :
    ∃ b of, ao = some ⟨b, of, none⟩ ∧ w.cell? ⟨b, of + k * 4, none⟩ = some (.int .i64 o.kind) ∧ w.cell? ⟨b, of + k * 4 + 1, none⟩ = some (.int .u32 o.v) ∧ w.cell? ⟨b, of + k * 4 + 2, none⟩ = some (.int .i64 o.n) ∧ w.cell? ⟨b, of + k * 4 + 3, none⟩ = some o.d := by
  obtain ⟨ao', cap', hue, hc1, hc2, hc3⟩ := h
  simp only [Value.slice.injEq] at hue
  obtain ⟨rfl, -, rfl⟩ := hue
  obtain ⟨b, of, rfl, h0, h1, h2, h3⟩ := hc3 k o ho
  have hk : ∀ {i : Nat} {u : Value}, W.cell? ⟨b, i, none⟩ = some u → w.cell? ⟨b, i, none⟩ = some u := fun hc => (hb.cell (World.block_lt_of_cell? _ _ hc)).trans hc
  exact ⟨b, of, rfl, hk h0, hk h1, hk h2, hk h3⟩

theorem ISc.len {w : World} {v : Value} {ops : List It} (h : ISc w v ops) : ∃ a c, v = .slice a ops.length c ∧ ops.length ≤ c ∧ c ≤ 9223372036854775807 := by
  obtain ⟨a, c, h, h1, h2, _⟩ := h
  unfold maxLen at h2
  exact ⟨a, c, h, h1, h2⟩

theorem size_any (W w : World) (vo : Value) (ops : List It) (hI : ISc W vo ops) (hO : IOk W ops) (hb : Below W.heap.size W w) (hn : ops.length ≤ 1048576) :
    Calls Try.prog 33 #[vo] w fun e w' => e = .returned (.int .i64 (isize ops : Nat)) ∧ ∃ n, w' = w.drewN n := by
  obtain ⟨ao, cap, hvo, hcap1, hcap2⟩ := hI.len
  subst hvo
  have HI := hide hI
  have HO := hide hO
  have HB := hide hb
  clear hI hO hb
  go_enter Try.func33, Try.ntmps33
  go_wp2
  go_loopw [3, 4] (fun x i wr => ∃ k n : Nat, k ≤ ops.length ∧ i = .int .i64 k ∧ x = .int .i64 (isize (ops.take k) : Nat) ∧ wr = w.drewN n) (fun _ i _ => ops.length - (intOf i).toNat)
  case atStart => exact ⟨0, 0, Nat.zero_le _, rfl, rfl, rfl⟩
  case round =>
    obtain ⟨k, n, hk, rfl, rfl, rfl⟩ := hrel
    by_cases hlt : k < ops.length
    · have hlt' : (k : Int) < (ops.length : Int) := by omega
      obtain ⟨o, ho⟩ : ∃ o, ops[k]? = some o := ⟨ops[k], by simp [hlt]⟩
      obtain ⟨b, of, hab, q0, q1, q2, q3⟩ := HI.out.item HB.out ho
      subst hab
      obtain ⟨hov, hos, hoB, hol⟩ := HO.out o (List.mem_of_getElem? ho)
      obtain ⟨da, dc, hd⟩ := hos.len
      rw [hd] at q3
      have q3' : (w.drewN n).cell? ⟨b, of + k * 4 + 3, none⟩ = some (.slice da o.l.length dc) := q3
      have hsz := isize_snoc ho
      have hb1 := isize_le ops (k + 1)
      have hb2 := isize_bound HO.out
      obtain ⟨S, HS⟩ : ∃ S, Hid (S = isize (ops.take k)) := ⟨_, rfl⟩
      rw [← HS.out] at hsz ⊢
      have hSb : S ≤ 100000000000000 := by omega
      have HSZ := hide hsz
      clear q0 q1 q2 q3 hsz hb1 hb2 hos hd ho
      go_wp2
      go_roundw
      case rel => exact ⟨k + 1, _, by omega, by go_num, by rw [HSZ.out]; go_num, by trivial⟩
      case measure => simp [intOf]; omega
    · obtain rfl : k = ops.length := by omega
      have hlt' : ¬ (ops.length : Int) < (ops.length : Int) := by omega
      have HT : Hid (ops.take ops.length = ops) := List.take_of_length_le (Nat.le_refl _)
      rw [HT.out]
      go_wp2
      go_ret
      exact ⟨rfl, _, rfl⟩

set_option maxHeartbeats 2000000 in
theorem lay_any (W w : World) (vo : Value) (ops : List It) (hI : ISc W vo ops) (hO : IOk W ops) (hsz : isize ops ≤ 268435456) (K : Nat → Nat) (g : Nat) (hH : Herd W w [(K, tw g [])]) :
    Calls Try.prog 34 #[.pointer (some ⟨g, 0, none⟩), vo] w fun e w' => e = .returned (.int .i64 ((layRow ops).length : Nat)) ∧ ∃ K', Herd W w' [(K', tw g (layRow ops))] := by
  obtain ⟨ao, cap, hvo, hcap1, hcap2⟩ := hI.len
  subst hvo
  have HI := hide hI
  have HO := hide hO
  have H0 := hide hH
  clear hI hO hH
  go_enter Try.func34, Try.ntmps34
  go_wp2
  go_loopw [5, 6] (fun x i wr => ∃ k : Nat, k ≤ ops.length ∧ i = .int .i64 k ∧ x = .int .i64 ((layRow (ops.take k)).length : Nat) ∧ Hid (∃ K', Herd W wr [(K', tw g (layRow (ops.take k)))])) (fun _ i _ => ops.length - (intOf i).toNat)
  case atStart => exact ⟨0, Nat.zero_le _, rfl, rfl, K, H0.out⟩
  case round =>
    clear H0
    obtain ⟨k, hk, rfl, rfl, HQ⟩ := hrel
    obtain ⟨K1, hH⟩ := HQ.out
    have H1 := hide hH
    clear hH HQ
    by_cases hlt : k < ops.length
    · have hlt' : (k : Int) < (ops.length : Int) := by omega
      obtain ⟨o, ho⟩ : ∃ o, ops[k]? = some o := ⟨ops[k], by simp [hlt]⟩
      obtain ⟨b, of, hab, q0, q1, q2, q3⟩ := HI.out.item H1.out.bel ho
      subst hab
      obtain ⟨⟨hv0, hv1⟩, hos, hoB, hol⟩ := HO.out o (List.mem_of_getElem? ho)
      obtain ⟨da, dc, hd⟩ := hos.len
      rw [hd] at q3
      have HOS := hide hos
      rw [hd] at HOS
      have HOB := hide hoB
      have hs1 := isize_snoc ho
      have hs2 := isize_le ops (k + 1)
      have hrl := layRow_len ops k
      have HLS := hide (layRow_snoc ho)
      obtain ⟨R, HR⟩ : ∃ R, Hid (R = layRow (ops.take k)) := ⟨_, rfl⟩
      rw [← HR.out] at H1 HLS hrl ⊢
      have hRb : R.length + (47 + 8 * o.l.length) ≤ 268435456 := by omega
      have hw32 := wid_le o
      have HWE := hide (wid_eq o)
      have HKM : Hid (0 ≤ o.kind % 3 ∧ o.kind % 3 < 3) := by constructor <;> omega
      clear hs1 hs2 hrl hos hd hoB ho
      obtain ⟨V, HV⟩ : ∃ V, Hid (V = wr.alloc (.cells #[.int .i64 o.kind, .int .u32 o.v, .int .i64 o.n, .slice da o.l.length dc] 97)) := ⟨_, rfl⟩
      obtain ⟨KB, hH⟩ := H1.out.alloc (.cells #[.int .i64 o.kind, .int .u32 o.v, .int .i64 o.n, .slice da o.l.length dc] 97)
      rw [← HV.out] at hH
      have H2 : Hid (Herd W V [(K1, tw g R), (KB, tb wr.heap.size (.cells #[.int .i64 o.kind, .int .u32 o.v, .int .i64 o.n, .slice da o.l.length dc] 97 (0, 0)))]) := hH
      clear hH
      have x1 : V.cell? ⟨wr.heap.size, 1, none⟩ = some (.int .u32 o.v) := H2.out.box 1 rfl 1
      have x2 : V.cell? ⟨wr.heap.size, 2, none⟩ = some (.int .i64 o.n) := H2.out.box 1 rfl 2
      have x3 : V.cell? ⟨wr.heap.size, 3, none⟩ = some (.slice da o.l.length dc) := H2.out.box 1 rfl 3
      by_cases k0 : o.kind % 3 = 0
      · have HST : Hid (layStep R o = R ++ bts (low o) (wid o)) := if_pos k0
        have hlow := low_in o.v (wid_le o)
        have HLow : Hid (o.v % 2 ^ wid o = low o) := rfl
        obtain ⟨m, HM⟩ : ∃ m, Hid (m = wid o) := ⟨_, rfl⟩
        obtain ⟨x, HX⟩ : ∃ x, Hid (x = low o) := ⟨_, rfl⟩
        rw [HLow.out, ← HX.out, ← HM.out] at hlow
        rw [← HX.out, ← HM.out] at HLow
        rw [← HX.out, ← HM.out] at HST
        rw [← HM.out] at HWE hw32
        obtain ⟨z0, z1, z2⟩ := hlow
        have P1 := hide (putE_ok (putOk_of (row := R) z1 hw32 (by omega)))
        have HK0 := hide k0
        clear k0 z1
        go_wp2_with fail
        rw [← HV.out]
        refine (which_any o.kind 3 (by omega) (by omega) _).mono ?_
        rintro e wx ⟨rfl, hwx⟩
        subst hwx
        rw [HK0.out]
        go_wp2_with fail
        refine (width_any o.n _).mono ?_
        rintro e wx ⟨rfl, hwx⟩
        subst hwx
        rw [HWE.out]
        go_wp2_with fail
        refine (low_any o.v m hw32 hv0 hv1 _).mono ?_
        rintro e wx ⟨rfl, hwx⟩
        subst hwx
        rw [HLow.out]
        go_wp2_with fail
        refine (hput H2.out 0 rfl x m z0 z2).mono ?_
        rintro e w3 ⟨rfl, K3, hH⟩
        rw [P1.out.1]
        rw [P1.out.2] at hH
        have H3 : Hid (Herd W w3 [(K3, tw g (R ++ bts x m))]) := Herd.pop (xs := [(K3, tw g (R ++ bts x m))]) hH
        clear hH
        go_wp2
        go_roundw
        case rel =>
          refine ⟨k + 1, by omega, by go_num, ?_, K3, ?_⟩
          · rw [HLS.out, HST.out, List.length_append, length_bts]; go_num
          · rw [HLS.out, HST.out]; exact H3.out
        case measure => simp [intOf]; omega
      · by_cases k1 : o.kind % 3 = 1
        · have HST : Hid (layStep R o = pad R) := by show _ = _; unfold layStep; rw [if_neg k0, if_pos k1]
          have HK1 := hide k1
          have hpl : (((pad R).length : Nat) : Int) = ((R.length : Int) + 7) / 8 * 8 := by rw [length_pad]; omega
          have HPL := hide hpl
          clear k0 k1 hpl x1 x2 x3
          go_wp2_with fail
          rw [← HV.out]
          refine (which_any o.kind 3 (by omega) (by omega) _).mono ?_
          rintro e wx ⟨rfl, hwx⟩
          subst hwx
          rw [HK1.out]
          go_wp2_with fail
          refine (halign H2.out 0 rfl).mono ?_
          rintro e w3 ⟨rfl, K3, hH⟩
          have H3 : Hid (Herd W w3 [(K3, tw g (pad R))]) := Herd.pop (xs := [(K3, tw g (pad R))]) hH
          clear hH
          go_wp2
          go_roundw
          case rel =>
            refine ⟨k + 1, by omega, by go_num, ?_, K3, ?_⟩
            · rw [HLS.out, HST.out, HPL.out]
            · rw [HLS.out, HST.out]; exact H3.out
          case measure => simp [intOf]; omega
        · have HST : Hid (layStep R o = pad R ++ unpack o.l) := by show _ = _; unfold layStep; rw [if_neg k0, if_neg k1]
          obtain ⟨HKa, HKb⟩ := HKM.out
          have k2 : o.kind % 3 = 2 := by omega
          have HK2 := hide k2
          obtain ⟨P, HP⟩ : ∃ P, Hid (P = pad R) := ⟨_, rfl⟩
          rw [← HP.out] at HST
          have hpl : (P.length : Int) = ((R.length : Int) + 7) / 8 * 8 := by rw [HP.out, length_pad]; omega
          have hP8 : P.length % 8 = 0 := by rw [HP.out, length_pad]; omega
          have hPb : P.length + 8 * o.l.length ≤ 268435456 := by omega
          have hre : rawE P o.l = 0 ∧ rawRow P o.l = P ++ unpack o.l := by
            unfold rawE rawRow
            rw [if_neg (by omega), if_neg (by omega), if_neg (by omega), if_neg (by omega)]
            exact ⟨rfl, rfl⟩
          have HRE := hide hre
          have HPL := hide hpl
          clear k0 k1 k2 hpl hP8 hre x1 x2 HKa HKb x3
          go_wp2_with fail
          rw [← HV.out]
          refine (which_any o.kind 3 (by omega) (by omega) _).mono ?_
          rintro e wx ⟨rfl, hwx⟩
          subst hwx
          rw [HK2.out]
          go_wp2_with fail
          refine (halign H2.out 0 rfl).mono ?_
          rintro e w3 ⟨rfl, K3, hH⟩
          rw [← HP.out] at hH
          have H3 := hide hH
          clear hH
          have x3 : w3.cell? ⟨wr.heap.size, 3, none⟩ = some (.slice da o.l.length dc) := H3.out.box 1 rfl 3
          have HS3 := hide (HOS.out.below H3.out.bel)
          go_wp2_with fail
          refine (copied_any _ o.l _ HS3.out (by omega)).mono ?_
          rintro e w4 ⟨a4, c4, rfl, ho4, hb4⟩
          obtain ⟨K4, hH⟩ := H3.out.list hb4 ho4
          have H4 : Hid (Herd W w4 [(K3, tw g P), (KB, tb wr.heap.size (.cells #[.int .i64 o.kind, .int .u32 o.v, .int .i64 o.n, .slice da o.l.length dc] 97 (0, 0))), (K4, tl (.slice a4 o.l.length c4) o.l)]) := hH
          clear hH ho4 hb4
          go_wp2_with fail
          refine (hraw H4.out 0 rfl _ o.l HOB.out (H4.out.sb 2 rfl) (fun x hx _ => H4.out.sep 2 0 _ _ rfl rfl (by decide) x ((H4.out.rep 2 _ rfl).2.1 x hx))).mono ?_
          rintro e w5 ⟨rfl, K5, hH⟩
          rw [HRE.out.1]
          rw [HRE.out.2] at hH
          have H5 : Hid (Herd W w5 [(K5, tw g (P ++ unpack o.l)), (KB, tb wr.heap.size (.cells #[.int .i64 o.kind, .int .u32 o.v, .int .i64 o.n, .slice da o.l.length dc] 97 (0, 0)))]) := Herd.pop (xs := [(K5, tw g (P ++ unpack o.l)), (KB, tb wr.heap.size (.cells #[.int .i64 o.kind, .int .u32 o.v, .int .i64 o.n, .slice da o.l.length dc] 97 (0, 0)))]) hH
          have H6 : Hid (Herd W w5 [(K5, tw g (P ++ unpack o.l))]) := Herd.pop (xs := [(K5, tw g (P ++ unpack o.l))]) H5.out
          have x5 : w5.cell? ⟨wr.heap.size, 3, none⟩ = some (.slice da o.l.length dc) := H5.out.box 1 rfl 3
          clear hH H5
          go_wp2
          go_roundw
          case rel =>
            refine ⟨k + 1, by omega, by go_num, ?_, K5, ?_⟩
            · rw [HLS.out, HST.out, List.length_append, length_unpack]
              have := HPL.out
              go_num
            · rw [HLS.out, HST.out]; exact H6.out
          case measure => simp [intOf]; omega
    · obtain rfl : k = ops.length := by omega
      have hlt' : ¬ (ops.length : Int) < (ops.length : Int) := by omega
      have HT : Hid (ops.take ops.length = ops) := List.take_of_length_le (Nat.le_refl _)
      rw [HT.out] at H1 ⊢
      go_wp2
      go_ret
      exact ⟨rfl, K1, H1.out⟩
end Go.Proofs.Ytklffkbcigehfab
