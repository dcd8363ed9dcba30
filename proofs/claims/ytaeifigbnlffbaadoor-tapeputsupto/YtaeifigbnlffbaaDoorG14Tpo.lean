import Derived.Test.YtaeifigbnlffbaaDoorG12Tpj
import Derived.Test.YtaeifigbnlffbaaDoorG13App
namespace Go.Proofs.YtaeifigbnlffbaaDoor
open Go.RowKit Go.Maps
set_option maxRecDepth 20000
set_option linter.unusedVariables false
set_option linter.unusedSimpArgs false

/-! The document's octal, filled, total, padded. -/

theorem sb_convert {w : World} {v : Value} {l : List Int} (h : SB w v l) : (convert 22 9 v).run Tryd.prog w = .ok (.string (strOfNums l)) w := by
  obtain ⟨ao, cap, rfl, h1, h2, h3, h4⟩ := h
  cases ao with
  | none =>
    have h0 := h3 rfl
    have hl : l = [] := List.eq_nil_of_length_eq_zero (by omega)
    subst hl
    exact run_convert_bytes_nil (P := Tryd.prog) w 22 5 Tryd.underlying22 Tryd.underlying5 0 cap 9 Tryd.underlying9
  | some a =>
    by_cases hl : l = []
    · subst hl
      have h0 : (loadCells a 0).run Tryd.prog w = .ok (([] : List Int).map (Value.int .u8)).toArray w := by
        have := run_loadCells_list (P := Tryd.prog) w a [] (fun j v hj => by simp at hj)
        simpa using this
      show (convert 22 9 (.slice (some a) 0 cap)).run Tryd.prog w = _
      rw [run_convert_bytes_string w 22 9 5 _ 0 cap Tryd.underlying22 Tryd.underlying5 Tryd.underlying9, run_bytesToString w a 0 cap [] h0]
      rfl
    · have hp : 0 < l.length := List.length_pos_iff.2 hl
      obtain ⟨b, o, rfl⟩ := addr_lit (h4 a rfl 0 hp)
      exact run_convert_bytes_arg (P := Tryd.prog) w 22 5 Tryd.underlying22 Tryd.underlying5 b o l.length cap l rfl (fun i hi => by
        have := h4 _ rfl i hi
        rwa [Addr.add_lit] at this) 9 Tryd.underlying9

theorem son_app (a b : List Int) : strOfNums a ++ strOfNums b = strOfNums (a ++ b) := by
  apply str_ext
  unfold strOfNums
  rw [ByteArray.data_append, Array.toList_append]
  simp

theorem son_size (l : List Int) : (strOfNums l).size = l.length := by simp [strOfNums, ByteArray.size]

theorem son_sbs (s : ByteArray) : strOfNums (sbs s) = s := by
  apply str_ext
  unfold strOfNums sbs
  simp only [List.map_map]
  have e : ∀ x ∈ s.data.toList, ((fun n : Int => UInt8.ofNat n.toNat) ∘ fun b : UInt8 => (b.toNat : Int)) x = x := by
    intro x hx
    simp [Function.comp]
  exact (List.map_congr_left e).trans (List.map_id' _)

theorem sbs_son {l : List Int} (h : ∀ x ∈ l, 0 ≤ x ∧ x < 256) : sbs (strOfNums l) = l := by
  unfold sbs strOfNums
  simp only [List.map_map]
  have e : ∀ x ∈ l, ((fun b : UInt8 => (b.toNat : Int)) ∘ fun n : Int => UInt8.ofNat n.toNat) x = x := by
    intro x hx
    have hb := h x hx
    simp only [Function.comp, UInt8.toNat_ofNat']
    omega
  exact (List.map_congr_left e).trans (List.map_id' l)

theorem sb_one (w : World) (g c : Nat) (x : Int) (h : w.cell? ⟨g, 0, none⟩ = some (.int .u8 x)) (hc : 1 ≤ c) (hm : c ≤ maxLen) : SB w (.slice (some ⟨g, 0, none⟩) 1 c) [x] :=
  ⟨some ⟨g, 0, none⟩, c, rfl, hc, hm, fun q => (by cases q), fun a ha i hi => by
      cases ha
      have hi0 : i = 0 := by simp at hi; exact hi
      subst hi0
      rw [Addr.add_lit]
      simpa using h⟩

set_option maxHeartbeats 4000000 in
theorem hoctal (n d : Nat) (hn : n ≤ 8589934591) (hd : d ≤ 1000) (w : World) :
    Calls Tryd.prog 31 #[.int .i64 n, .int .i64 d] w fun e w' => e = .returned (.string (strOfNums (oct n d))) ∧ Below w.heap.size w w' := by
  go_enter Tryd.func31, Tryd.ntmps31
  go_wp2
  go_loopw [0, 5, 6] (fun nv sv i wx => ∃ k : Nat, k ≤ d ∧ nv = .int .i64 ((n / 8 ^ k : Nat) : Int) ∧ sv = .string (strOfNums (oct n k)) ∧ i = .int .i64 k ∧ Below w.heap.size w wx) (fun _ _ i _ => d - (intOf i).toNat)
  case atStart => exact ⟨0, Nat.zero_le _, by simp, rfl, rfl, Below.refl _ _⟩
  case round =>
    obtain ⟨k, hk, rfl, rfl, rfl, hb⟩ := hrel
    obtain ⟨m, HM⟩ : ∃ m, Hid (m = n / 8 ^ k) := ⟨_, rfl⟩
    rw [← HM.out]
    have hm : m ≤ n := by rw [HM.out]; exact Nat.div_le_self _ _
    have HB := hide hb
    clear hb
    by_cases hlt : k < d
    · have hlt' : (k : Int) < (d : Int) := by omega
      have HMM : Hid ((m : Int) / 8 = ((n / 8 ^ (k + 1) : Nat) : Int)) := by
        show _ = _
        rw [Nat.pow_succ, ← Nat.div_div_eq_div_mul, ← HM.out]; omega
      have HOC : Hid (strOfNums [48 + (m : Int) % 8] ++ strOfNums (oct n k) = strOfNums (oct n (k + 1))) := by
        show _ = _
        rw [son_app, oct_front, ← HM.out]
        rfl
      obtain ⟨S, HS⟩ : ∃ S, Hid (S = strOfNums (oct n k)) := ⟨_, rfl⟩
      have hsz : S.size = k := by rw [HS.out, son_size, oct_len]
      rw [← HS.out] at HOC ⊢
      obtain ⟨x, hx⟩ : ∃ x : Int, x = 48 + (m : Int) % 8 := ⟨_, rfl⟩
      have hxw : IntKind.u8.wrap (48 + (m : Int) % 8) = x := by rw [IntKind.wrap_u8]; omega
      have hcv : ∀ wx : World, wx.cell? ⟨wr.heap.size, 0, none⟩ = some (.int .u8 x) → (convert 22 9 (.slice (some ⟨wr.heap.size, 0, none⟩) 1 1)).run Tryd.prog wx = .ok (.string (strOfNums [x])) wx := fun wx h => sb_convert (sb_one wx _ 1 x h (by decide) (by decide))
      rw [← hx] at HOC
      obtain ⟨T, HT⟩ : ∃ T, Hid (T = strOfNums [x]) := ⟨_, rfl⟩
      have hTz : T.size = 1 := by rw [HT.out, son_size]; rfl
      rw [← HT.out] at HOC hcv
      have HB1 : Hid (Below w.heap.size w (wr.alloc (.cells #[.int .u8 x] 5))) := HB.out.alloc HB.out.size _
      clear hx
      go_wp2
      go_roundw
      case rel => exact ⟨k + 1, by omega, by rw [HMM.out], by rw [HOC.out], by go_num, HB1.out⟩
      case measure => simp [intOf]; omega
    · obtain rfl : k = d := by omega
      have hlt' : ¬ (k : Int) < (k : Int) := by omega
      go_wp2
      go_ret
      exact ⟨rfl, HB.out⟩

theorem sb_ab {w : World} {g : Nat} {L : List Int} {t : TypeId} (h : w.heap[g]? = some (.cells (ab L) t (0, 0))) (hm : L.length ≤ maxLen) : SB w (.slice (some ⟨g, 0, none⟩) L.length L.length) L :=
  ⟨some ⟨g, 0, none⟩, L.length, rfl, Nat.le_refl _, hm, fun q => (by cases q), fun a ha i hi => by
    cases ha
    rw [Addr.add_lit, Nat.zero_add]
    exact ab_cell h hi⟩

theorem wrt_fil {s : List Int} {n : Nat} (h : s.length ≤ n) : wrt (List.replicate n 0) 0 s = fil s n := by
  rw [fil_of h]
  unfold wrt
  simp

set_option maxHeartbeats 4000000 in
theorem hfilled (s : ByteArray) (n : Nat) (hs : s.size ≤ n) (hn : n ≤ 100000) (w : World) :
    Calls Tryd.prog 32 #[.string s, .int .i64 n] w fun e w' => e = .returned (.string (strOfNums (fil (sbs s) n))) ∧ Below w.heap.size w w' := by
  have HNN := hide hn
  have HSS := hide hs
  go_enter Tryd.func32, Tryd.ntmps32
  go_wp2_with (first
    | (at_make; refine wpList_mk rfl _ _ rfl _ _ _ _ n n rfl rfl rfl (by first | rfl | (simp; done)) (by omega) (by omega) ?_; intro w1 h1 b1; have H1 : Hid (w1.heap[w.heap.size]? = some (.cells (ab (List.replicate n 0)) 5 (0, 0))) := (by show _ = _; rw [h1]; simp [ab]); have B1 := hide b1; clear h1 b1)
    | (refine wpList_copyS rfl _ _ rfl w.heap.size 0 n n (List.replicate n 0) 5 H1.out (by rfl) s (by rfl) HSS.out (by rw [List.length_replicate]; have := HSS.out; omega) ?_; intro w2 h2 g2 z2; have H2 : Hid (w2.heap[w.heap.size]? = some (.cells (ab (fil (sbs s) n)) 5 (0, 0))) := (by show _ = _; rw [h2.out, wrt_fil (by rw [sbs_len]; exact HSS.out)]); have B2 : Hid (Below w.heap.size w w2) := B1.out.trans (grown_below24 g2 (Nat.le_refl _) B1.out.size); clear h2 g2 z2; have hcv := sb_convert (sb_ab H2.out (by rw [fil_len]; have := HNN.out; unfold maxLen; omega)); rw [fil_len] at hcv))
  go_ret
  exact ⟨rfl, B2.out⟩

set_option maxHeartbeats 4000000 in
theorem htotal (s : ByteArray) (hs : s.size ≤ 100000) (w : World) :
    Calls Tryd.prog 29 #[.string s] w fun e w' => e = .returned (.int .i64 (sbs s).sum) ∧ w' = w := by
  have HR := hide (sbs_rng s)
  have HL := hide (sbs_len s)
  have HAT : Hid (∀ k (h : k < s.size), (sbs s).getD k 0 = ((s[k]).toNat : Int)) := fun k h => by
    unfold sbs
    rw [List.getD_eq_getElem?_getD, List.getElem?_map, str_at s k h]
    rfl
  obtain ⟨M, HM⟩ : ∃ M, Hid (M = sbs s) := ⟨_, rfl⟩
  rw [← HM.out] at HR HL HAT ⊢
  go_enter Tryd.func29, Tryd.ntmps29
  go_wp2
  go_loopw [3, 4] (fun n i wx => ∃ k : Nat, k ≤ s.size ∧ n = .int .i64 (M.take k).sum ∧ i = .int .i64 k ∧ wx = w) (fun _ i _ => s.size - (intOf i).toNat)
  case atStart => exact ⟨0, Nat.zero_le _, rfl, rfl, rfl⟩
  case round =>
    obtain ⟨k, hk, rfl, rfl, hwx⟩ := hrel
    obtain ⟨q1, q2⟩ := sum_rng M HR.out k
    obtain ⟨S, HSS⟩ : ∃ S, Hid (S = (M.take k).sum) := ⟨_, rfl⟩
    rw [← HSS.out] at q1 q2 ⊢
    by_cases hlt : k < s.size
    · have hlt' : (k : Int) < (s.size : Int) := by omega
      have HN := hide (sum_next M (k := k) (by have := HL.out; omega))
      rw [HAT.out k hlt, ← HSS.out] at HN
      have hxl := (s[k]).toNat_lt
      have hw1 : IntKind.i64.wrap ((s[k]).toNat : Int) = ((s[k]).toNat : Int) := by rw [IntKind.wrap_i64]; omega
      have hw2 : IntKind.i64.wrap (S + ((s[k]).toNat : Int)) = S + ((s[k]).toNat : Int) := by rw [IntKind.wrap_i64]; omega
      go_wp2
      go_roundw
      case rel => exact ⟨k + 1, by omega, by rw [HN.out], by go_num, by first | exact hwx | trivial⟩
      case measure => simp [intOf]; omega
    · obtain rfl : k = s.size := by omega
      have hlt' : ¬ (s.size : Int) < (s.size : Int) := by omega
      have HS5 : Hid (S = M.sum) := by
        show _ = _
        rw [HSS.out, List.take_of_length_le (by have := HL.out; omega)]
      go_wp2
      go_ret
      exact ⟨by rw [← HS5.out]; rfl, by first | exact hwx | trivial⟩

def pdd (n : Nat) : Nat := (n + 511) / 512 * 512

set_option maxHeartbeats 2000000 in
theorem hpadded (n : Nat) (hn : n ≤ 1000000000000) (w : World) : Calls Tryd.prog 27 #[.int .i64 n] w fun e w' => e = .returned (.int .i64 (pdd n : Nat)) ∧ w' = w := by
  go_enter Tryd.func27, Tryd.ntmps27
  go_wp2
  go_loopw [0] (fun i wx => ∃ k : Nat, n ≤ k ∧ k ≤ pdd n ∧ i = .int .i64 k ∧ wx = w) (fun i _ => pdd n - (intOf i).toNat)
  case atStart => exact ⟨n, Nat.le_refl _, by unfold pdd; omega, rfl, rfl⟩
  case round =>
    obtain ⟨k, hk, hk2, rfl, hwx⟩ := hrel
    obtain ⟨P, HP⟩ : ∃ P, Hid (P = pdd n) := ⟨_, rfl⟩
    rw [← HP.out] at hk2 ⊢
    have HPP : Hid (P = (n + 511) / 512 * 512) := HP.out
    have hkb : k ≤ 2000000000000 := by have := HPP.out; omega
    by_cases hz : (k : Int) % 512 = 0
    · have HE : Hid (k = P) := by have := HPP.out; show _ = _; omega
      go_wp2
      go_ret
      exact ⟨by rw [← HP.out, ← HE.out]; rfl, by first | exact hwx | trivial⟩
    · have HE : Hid (k + 1 ≤ P) := by have := HPP.out; show _ ≤ _; omega
      go_wp2
      go_roundw
      case rel => exact ⟨k + 1, by omega, HE.out, by go_num, by first | exact hwx | trivial⟩
      case measure => have := HE.out; simp [intOf]; omega
end Go.Proofs.YtaeifigbnlffbaaDoor

