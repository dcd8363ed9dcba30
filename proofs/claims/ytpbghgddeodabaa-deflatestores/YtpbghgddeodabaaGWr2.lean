import Derived.Test.YtpbghgddeodabaaGWr
import Derived.Test.YtpbghgddeodabaaGRev
namespace Go.Proofs.Ytpbghgddeodabaa
open Go.RowKit Go.Maps
set_option maxRecDepth 20000

/-- The program's writer, with its row of bits. -/
def Wp (w : World) (K : Nat → Nat) (g : Nat) (row : List Int) : Prop := ∃ v d r h, WW w K g v d r h ∧ Lies row d r h ∧ row.length ≤ 268435456

theorem Wp.bit {w : World} {K : Nat → Nat} {g : Nat} {row : List Int} (h : Wp w K g row) : Bit row := by
  obtain ⟨_, _, _, _, _, h, _⟩ := h
  exact h.bit

theorem Wp.top {w : World} {K : Nat → Nat} {g : Nat} {row : List Int} (h : Wp w K g row) : row.length ≤ 268435456 := by
  obtain ⟨_, _, _, _, _, _, h⟩ := h
  exact h

theorem Wp.far {w w' : World} {K : Nat → Nat} {g : Nat} {row : List Int} (h : Wp w K g row) (hsz : w.heap.size ≤ w'.heap.size) (hb : ∀ k, K k ≠ 0 → w'.heap[k]? = w.heap[k]?) : Wp w' K g row := by
  obtain ⟨v, d, r, n, h1, h2, h3⟩ := h
  exact ⟨v, d, r, n, h1.far hsz hb, h2, h3⟩

theorem Wp.drewN {w : World} {K : Nat → Nat} {g : Nat} {row : List Int} (h : Wp w K g row) (n : Nat) : Wp (w.drewN n) K g row := h.far (Nat.le_refl _) (fun _ _ => rfl)

theorem Wp.sup {w : World} {K : Nat → Nat} {g : Nat} {row : List Int} (h : Wp w K g row) : ∀ k, K k ≠ 0 → k < w.heap.size := by
  obtain ⟨_, _, _, _, h, _⟩ := h
  exact h.sup

theorem wlen_any {w : World} {K : Nat → Nat} {g : Nat} {row : List Int} (h : Wp w K g row) :
    Calls Try.prog 27 #[.pointer (some ⟨g, 0, none⟩)] w fun e w' => e = .returned (.int .i64 row.length) ∧ ∃ n, w' = w.drewN n := by
  obtain ⟨v, d, r, n, h1, h2, h3⟩ := h
  have c0 : w.cell? ⟨g, 0, none⟩ = some v := h1.cell 0
  have c2 : w.cell? ⟨g, 2, none⟩ = some (.int .i64 n) := h1.cell 2
  obtain ⟨a, c, rfl⟩ := h1.o.shape
  have hl := h2.len
  have hd : d.length ≤ 33554432 := by omega
  have hn := h2.h8
  have HL : Hid ((row.length : Int) = 8 * d.length + n) := by show _ = _; omega
  clear h1 h2 hl h3
  rw [HL.out]
  go_enter Try.func27, Try.ntmps27
  go_wp2
  go_quiet (fail)
  go_wp2
  go_ret
  exact ⟨rfl, _, rfl⟩

theorem room_any {w : World} {K : Nat → Nat} {g : Nat} {row : List Int} (h : Wp w K g row) :
    Calls Try.prog 23 #[.pointer (some ⟨g, 0, none⟩)] w fun e w' => e = .returned (.int .i64 (268435456 - (row.length : Int))) ∧ ∃ n, w' = w.drewN n := by
  have H := hide h
  have ht := h.top
  clear h
  go_enter Try.func23, Try.ntmps23
  go_wp2_with fail
  refine (wlen_any H.out).mono ?_
  rintro e w' ⟨rfl, n, rfl⟩
  go_wp2
  go_ret
  exact ⟨rfl, n, rfl⟩

def putOk (row : List Int) (v n : Int) : Prop := Fit v n ∧ (row.length : Int) + n ≤ 268435456
instance (row : List Int) (v n : Int) : Decidable (putOk row v n) := by unfold putOk; exact inferInstance
def putE (row : List Int) (v n : Int) : Int := if putOk row v n then 0 else 1
def putRow (row : List Int) (v n : Int) : List Int := if putOk row v n then row ++ bts v n.toNat else row

theorem wput_any {w : World} {K : Nat → Nat} {g : Nat} {row : List Int} (h : Wp w K g row) (v n : Int) (hv : 0 ≤ v) (hv1 : v < 4294967296) :
    Calls Try.prog 19 #[.pointer (some ⟨g, 0, none⟩), .int .u32 v, .int .i64 n] w fun e w' => e = .returned (.int .i64 (putE row v n)) ∧ ∃ K', Wp w' K' g (putRow row v n) ∧ Fr K K' w w' := by
  have H := hide h
  have ht := h.top
  clear h
  by_cases hf : Fit v n
  case neg =>
    have HE : Hid (putE row v n = 1 ∧ putRow row v n = row) := ⟨if_neg fun h => hf h.1, if_neg fun h => hf h.1⟩
    have HD : Hid (decide (Fit v n) = false) := decide_eq_false hf
    clear hf
    go_enter Try.func19, Try.ntmps19
    go_wp2_with fail
    refine (fits_any v n hv hv1 _).mono ?_
    rintro e w' ⟨rfl, rfl⟩
    rw [HD.out]
    go_wp2
    go_ret
    rw [HE.out.1, HE.out.2]
    exact ⟨rfl, K, H.out, Fr.refl _ _⟩
  case pos =>
  have HD : Hid (decide (Fit v n) = true) := decide_eq_true hf
  obtain ⟨⟨n0, n1⟩, hf2⟩ := id hf
  by_cases hr : (row.length : Int) + n ≤ 268435456
  case neg =>
    have HE : Hid (putE row v n = 1 ∧ putRow row v n = row) := ⟨if_neg fun h => hr h.2, if_neg fun h => hr h.2⟩
    clear hf hf2
    go_enter Try.func19, Try.ntmps19
    go_wp2_with fail
    refine (fits_any v n hv hv1 _).mono ?_
    rintro e w' ⟨rfl, rfl⟩
    rw [HD.out]
    go_wp2_with fail
    refine (room_any H.out).mono ?_
    rintro e w1 ⟨rfl, q, rfl⟩
    go_wp2
    go_ret
    rw [HE.out.1, HE.out.2]
    exact ⟨rfl, K, H.out.drewN _, (Fr.refl _ _).drewN _⟩
  case pos =>
    have HE : Hid (putE row v n = 0 ∧ putRow row v n = row ++ bts v n.toNat) := ⟨if_pos ⟨hf, hr⟩, if_pos ⟨hf, hr⟩⟩
    clear hf
    obtain ⟨m, rfl⟩ : ∃ m : Nat, n = m := ⟨n.toNat, by omega⟩
    have HV : Hid (v < 2 ^ m) := by show _ < _; simpa using hf2
    clear hf2
    go_enter Try.func19, Try.ntmps19
    go_wp2_with fail
    refine (fits_any v m hv hv1 _).mono ?_
    rintro e w' ⟨rfl, rfl⟩
    rw [HD.out]
    go_wp2_with fail
    refine (room_any H.out).mono ?_
    rintro e w1 ⟨rfl, q, rfl⟩
    obtain ⟨u, d, r, k, a1, a2, a3⟩ := H.out
    have hl := a2.len
    have hdl : d.length ≤ 140737488351232 := by omega
    have HA1 := hide (a1.drewN q)
    have HA2 := hide a2
    clear a1 a2 hl
    go_wp2_with fail
    refine (put_any (v := u) HA1.out HA2.out v m hv HV.out (by omega) hdl).mono ?_
    rintro e w2 ⟨rfl, K', v', d', r', h', b1, b2, b3, _⟩
    have HF : Hid (∃ K', Wp w2 K' g (putRow row v m) ∧ Fr K K' w' w2) := by
      refine ⟨K', ⟨v', d', r', h', b1, ?_, ?_⟩, ((Fr.refl _ _).drewN q).trans b3⟩
      · rw [HE.out.2]; exact b2
      · rw [HE.out.2, List.length_append, length_bts]; simp only [Int.toNat_natCast]; omega
    clear b1 b2 b3
    go_wp2
    go_ret
    rw [HE.out.1]
    exact ⟨rfl, HF.out⟩

def alignRow (row : List Int) : List Int := pad row

theorem top_pad {row : List Int} (h : row.length ≤ 268435456) : (pad row).length ≤ 268435456 := by
  rw [length_pad]; omega

theorem walign_any {w : World} {K : Nat → Nat} {g : Nat} {row : List Int} (h : Wp w K g row) :
    Calls Try.prog 20 #[.pointer (some ⟨g, 0, none⟩)] w fun e w' => e = .returned (.tuple #[]) ∧ ∃ K', Wp w' K' g (pad row) ∧ Fr K K' w w' := by
  have H := hide h
  obtain ⟨v, d, r, n, h1, h2, h3⟩ := h
  have c2 : w.cell? ⟨g, 2, none⟩ = some (.int .i64 n) := h1.cell 2
  have hl := h2.len
  have hn := h2.h8
  have HA1 := hide h1
  have HA2 := hide h2
  clear h1 h2
  by_cases h0 : n = 0
  · subst h0
    have HP : Hid (pad row = row) := by show _ = _; unfold pad; rw [show (row.length + 7) / 8 * 8 - row.length = 0 by omega]; simp
    rw [HP.out]
    go_enter Try.func20, Try.ntmps20
    go_wp2
    (try simp only [Exit.inBlock, Exit.then]); refine bodyPost_end (results_none rfl _ _ _) rfl ?_
    exact ⟨rfl, K, H.out, Fr.refl _ _⟩
  · have h0' : (0 : Int) < n := by omega
    have HP : Hid (pad row = row ++ bts 0 (8 - n)) := by show _ = _; unfold pad; rw [show (row.length + 7) / 8 * 8 - row.length = 8 - n by omega, bts_zero]
    have hx : (8 : Int) - n = ((8 - n : Nat) : Int) := by omega
    have HX := hide hx
    have hdl : d.length ≤ 140737488351232 := by omega
    clear hx
    go_enter Try.func20, Try.ntmps20
    go_wp2_with fail
    rw [HX.out]
    refine (put_any (v := v) HA1.out HA2.out 0 (8 - n) (by omega) (pow_pos _) (by omega) hdl).mono ?_
    rintro e w2 ⟨rfl, K', v', d', r', h', b1, b2, b3, _⟩
    have HF : Hid (∃ K', Wp w2 K' g (pad row) ∧ Fr K K' w w2) := by
      refine ⟨K', ⟨v', d', r', h', b1, ?_, top_pad h3⟩, b3⟩
      rw [HP.out]; exact b2
    clear b1 b2 b3
    go_wp2
    (try simp only [Exit.inBlock, Exit.then]); refine bodyPost_end (results_none rfl _ _ _) rfl ?_
    exact ⟨rfl, HF.out⟩

/-- A writer just made. -/
def MadeW (w : World) (e : Ending) (w' : World) : Prop := ∃ g K, e = .returned (.pointer (some ⟨g, 0, none⟩)) ∧ Wp w' K g [] ∧ (∀ k, K k ≠ 0 → w.heap.size ≤ k) ∧ Below w.heap.size w w'

theorem newWriter_any (w : World) : Calls Try.prog 16 #[] w fun e w' => MadeW w e w' := by
  go_enter Try.func16, Try.ntmps16
  go_wp2
  go_ret
  refine ⟨_, fun k => if k = w.heap.size then 1 else 0, rfl, ⟨.slice none 0 0, [], 0, 0, ⟨heap_alloc_new w _, by simp, World.ownsRow_nil _ _ _ _, (fun k hk => by simp [Value.ownBlock] at hk), fun k hk => ?_⟩, lies_nil, by simp⟩, fun k hk => ?_, (Below.refl _ _).alloc (Nat.le_refl _) _⟩
  · by_cases e : k = w.heap.size
    · rw [e, size_alloc']; omega
    · simp [e] at hk
  · by_cases e : k = w.heap.size
    · omega
    · simp [e] at hk
end Go.Proofs.Ytpbghgddeodabaa

