import Derived.Test.YtjmjjjpanioifaaGBuf
namespace Go.Proofs.Ytjmjjjpanioifaa
open Go.RowKit Go.Maps
set_option maxRecDepth 20000

/-- The n low bytes, the lowest first. -/
def bytesLE (v : Int) : Nat → List Int
  | 0 => []
  | n + 1 => v % 256 :: bytesLE (v / 256) n

theorem length_bytesLE (v : Int) (n : Nat) : (bytesLE v n).length = n := by
  induction n generalizing v with
  | zero => rfl
  | succ n ih => simp [bytesLE, ih]

theorem bytesLE_snoc (v : Int) (n : Nat) : bytesLE v (n + 1) = bytesLE v n ++ [v / 256 ^ n % 256] := by
  induction n generalizing v with
  | zero => simp [bytesLE]
  | succ n ih =>
    rw [bytesLE, ih, bytesLE]
    simp only [List.cons_append]
    congr 3
    rw [Int.pow_succ, Int.mul_comm, Int.ediv_ediv_of_nonneg (by omega)]

theorem byt_bytesLE (v : Int) (n : Nat) : Byt (bytesLE v n) := by
  induction n generalizing v with
  | zero => intro i; simp [bytesLE]
  | succ n ih =>
    intro i
    cases i with
    | zero => simp [bytesLE]; omega
    | succ i => simpa [bytesLE] using ih (v / 256) i

def wide (v : Int) (n : Nat) : Prop := v < 0 ∨ 256 ^ n ≤ v

instance (v : Int) (n : Nat) : Decidable (wide v n) := by unfold wide; exact inferInstance

def numSt (st : BSt) (v : Int) (n : Nat) : BSt :=
  if st.e ≠ 0 then st else if wide v n then { st with e := 21 } else if st.m - st.l.length < n then { st with e := 22 } else { st with l := st.l ++ bytesLE v n }

theorem room_no {w : World} {K : Nat → Nat} {g : Nat} {v : Value} {st : BSt} (h : BuV true w K g v st) (n : Nat) (h0 : st.e = 0) (hr : st.m - st.l.length < n) :
    Calls Try.prog 71 #[.pointer (some ⟨g, 0, none⟩), .int .i64 (n : Int)] w fun e w' => e = .returned (.bool false) ∧ BuV true w' K g v { st with e := 22 } ∧ Fr K K w w' := by
  have H := hide h
  have hp := h.pos h0
  have ht := h.top
  obtain ⟨c0, c1, c2⟩ := S3.at h.s
  have hfz := S3.free h.s
  obtain ⟨a, c, rfl⟩ := h.o.shape
  have hlm : st.l.length ≤ 9223372036854775807 := by
    obtain ⟨_, _, e, h1, h2, _⟩ := h.o.sb
    simp only [Value.slice.injEq] at e
    unfold maxLen at h2
    omega
  clear h h0
  go_enter Try.func71, Try.ntmps71
  go_wp2
  go_quiet (fail)
  go_wp2
  go_ret
  exact ⟨rfl, ((H.out.drewN _).err 22 (by omega)).1, ((Fr.refl K w).drewN _).trans ((H.out.drewN _).err 22 (by omega)).2⟩

theorem room_yes {w : World} {K : Nat → Nat} {g : Nat} {v : Value} {st : BSt} (h : BuV true w K g v st) (n : Nat) (h0 : st.e = 0) (hr : ¬ st.m - st.l.length < n) :
    Calls Try.prog 71 #[.pointer (some ⟨g, 0, none⟩), .int .i64 (n : Int)] w fun e w' => e = .returned (.bool true) ∧ BuV true w' K g v st ∧ Fr K K w w' := by
  have H := hide h
  have hp := h.pos h0
  have ht := h.top
  obtain ⟨c0, c1, c2⟩ := S3.at h.s
  have hfz := S3.free h.s
  obtain ⟨a, c, rfl⟩ := h.o.shape
  have hlm : st.l.length ≤ 9223372036854775807 := by
    obtain ⟨_, _, e, h1, h2, _⟩ := h.o.sb
    simp only [Value.slice.injEq] at e
    unfold maxLen at h2
    omega
  clear h h0
  go_enter Try.func71, Try.ntmps71
  go_wp2
  go_quiet (fail)
  go_wp2
  go_ret
  exact ⟨rfl, H.out.drewN _, (Fr.refl K w).drewN _⟩

theorem fits_no {w : World} {K : Nat → Nat} {g : Nat} {u : Value} {st : BSt} (h : BuV true w K g u st) (v : Int) (n : Nat) (hn : n = 1 ∨ n = 2 ∨ n = 4) (hv0 : -9223372036854775808 ≤ v) (hv1 : v ≤ 9223372036854775807) (hw : wide v n) :
    Calls Try.prog 80 #[.pointer (some ⟨g, 0, none⟩), .int .i64 v, .int .i64 (n : Int)] w fun e w' => e = .returned (.bool false) ∧ BuV true w' K g u { st with e := 21 } ∧ Fr K K w w' := by
  have H := hide h
  obtain ⟨c0, c1, c2⟩ := S3.at h.s
  have hfz := S3.free h.s
  clear h c0 c1
  have HE := hide (H.out.err 21 (by omega))
  by_cases h0 : v < 0
  · clear hw
    go_enter Try.func80, Try.ntmps80
    go_wp2
    go_ret
    exact ⟨rfl, HE.out.1, HE.out.2⟩
  have h1 : 256 ^ n ≤ v := by
    rcases hw with h | h
    · exact absurd h h0
    · exact h
  clear hw
  obtain rfl | rfl | rfl := hn
  · have hg : 0 < v / 256 := by omega
    clear h1
    go_enter Try.func80, Try.ntmps80
    go_wp2
    go_ret
    exact ⟨rfl, HE.out.1, HE.out.2⟩
  · have hg : 0 < v / 65536 := by omega
    clear h1
    go_enter Try.func80, Try.ntmps80
    go_wp2
    go_ret
    exact ⟨rfl, HE.out.1, HE.out.2⟩
  · have hg : 0 < v / 4294967296 := by omega
    clear h1
    go_enter Try.func80, Try.ntmps80
    go_wp2
    go_ret
    exact ⟨rfl, HE.out.1, HE.out.2⟩

theorem fits_yes {w : World} {K : Nat → Nat} {g : Nat} {u : Value} {st : BSt} (h : BuV true w K g u st) (v : Int) (n : Nat) (hn : n = 1 ∨ n = 2 ∨ n = 4) (hw : ¬ wide v n) :
    Calls Try.prog 80 #[.pointer (some ⟨g, 0, none⟩), .int .i64 v, .int .i64 (n : Int)] w fun e w' => e = .returned (.bool true) ∧ w' = w := by
  have H := hide h
  obtain ⟨c0, c1, c2⟩ := S3.at h.s
  have hfz := S3.free h.s
  clear h c0 c1
  have h0 : ¬ v < 0 := fun h => hw (.inl h)
  have h1 : ¬ 256 ^ n ≤ v := fun h => hw (.inr h)
  clear hw H c2 hfz
  obtain rfl | rfl | rfl := hn
  · have hg : v / 256 = 0 := by omega
    have hv2 : v ≤ 9223372036854775807 := by omega
    clear h1
    go_enter Try.func80, Try.ntmps80
    go_wp2
    go_ret
    exact ⟨rfl, rfl⟩
  · have hg : v / 65536 = 0 := by omega
    have hv2 : v ≤ 9223372036854775807 := by omega
    clear h1
    go_enter Try.func80, Try.ntmps80
    go_wp2
    go_ret
    exact ⟨rfl, rfl⟩
  · have hg : v / 4294967296 = 0 := by omega
    have hv2 : v ≤ 9223372036854775807 := by omega
    clear h1
    go_enter Try.func80, Try.ntmps80
    go_wp2
    go_ret
    exact ⟨rfl, rfl⟩
end Go.Proofs.Ytjmjjjpanioifaa

