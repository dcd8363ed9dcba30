import Derived.Test.YthjgabncifghaabPatch
namespace Go.Proofs.Ythjgabncifghaab
open Go.RowKit Go.Maps
set_option maxRecDepth 20000

theorem bytesLE_get (v : Int) (n k : Nat) (hk : k < n) : (bytesLE v n).getD k 0 = v / 256 ^ k % 256 := by
  induction n generalizing v k with
  | zero => omega
  | succ n ih =>
    cases k with
    | zero => simp [bytesLE]
    | succ k =>
      have e : (bytesLE v (n + 1)).getD (k + 1) 0 = (bytesLE (v / 256) n).getD k 0 := by simp [bytesLE]
      rw [e, ih (v / 256) k (by omega), Int.pow_succ, Int.mul_comm, Int.ediv_ediv_of_nonneg (by omega)]

set_option maxHeartbeats 4000000 in
theorem rbpatch_any {w : World} {K : Nat → Nat} {g : Nat} {u : Value} {st : BSt} (h : BuV false w K g u st) (A v : Int) (hv1 : v ≤ 9223372036854775807) :
    Calls Try.prog 58 #[.pointer (some ⟨g, 0, none⟩), .int .i64 A, .int .i64 v] w fun e w' => e = .returned (.tuple #[]) ∧ ∃ K', Bu false w' K' g (patchSt st A v) ∧ Fr K K' w w' := by
  have H := hide h
  obtain ⟨c0, c1, c2⟩ := S3.at h.s
  have hfz := S3.free h.s
  obtain ⟨a, p, rfl⟩ := h.o.shape
  have hlm : st.l.length ≤ 9223372036854775807 := by
    obtain ⟨_, _, e, h1, h2, _⟩ := h.o.sb
    simp only [Value.slice.injEq] at e
    unfold maxLen at h2
    omega
  clear h
  by_cases he : st.e = 0
  case neg =>
    have HS : Hid (patchSt st A v = st) := by show _ = _; unfold patchSt; rw [if_pos he]
    have he' : (st.e != 0) = true := by simpa using he
    clear c0 c1
    go_enter Try.func58, Try.ntmps58
    go_wp2
    (try simp only [Exit.inBlock, Exit.then]); refine bodyPost_ret (results_none rfl _ _ _) rfl ?_
    rw [HS.out]
    exact ⟨rfl, K, ⟨_, H.out⟩, Fr.refl _ _⟩
  case pos =>
  rw [he] at c2
  by_cases hA : A < 0
  case pos =>
    have HS : Hid (patchSt st A v = { st with e := 1 }) := by show _ = _; unfold patchSt; rw [if_neg (by simp [he]), if_pos (.inl hA)]
    have HR := hide (H.out.err 1 (by omega))
    clear he c0 c1
    go_enter Try.func58, Try.ntmps58
    go_wp2
    (try simp only [Exit.inBlock, Exit.then]); refine bodyPost_ret (results_none rfl _ _ _) rfl ?_
    rw [HS.out]
    exact ⟨rfl, K, ⟨_, HR.out.1⟩, HR.out.2⟩
  case neg =>
  by_cases hB : (st.l.length : Int) - 4 < A
  case pos =>
    have HS : Hid (patchSt st A v = { st with e := 1 }) := by show _ = _; unfold patchSt; rw [if_neg (by simp [he]), if_pos (.inr hB)]
    have HR := hide (H.out.err 1 (by omega))
    clear he c0
    go_enter Try.func58, Try.ntmps58
    go_wp2
    (try simp only [Exit.inBlock, Exit.then]); refine bodyPost_ret (results_none rfl _ _ _) rfl ?_
    rw [HS.out]
    exact ⟨rfl, K, ⟨_, HR.out.1⟩, HR.out.2⟩
  case neg =>
  by_cases hw : wide v 4
  case pos =>
    have HS : Hid (patchSt st A v = { st with e := 21 }) := by show _ = _; unfold patchSt; rw [if_neg (by simp [he]), if_neg (by omega), if_pos hw]
    have HR := hide (H.out.err 21 (by omega))
    by_cases h0 : v < 0
    · clear he c0 hw
      go_enter Try.func58, Try.ntmps58
      go_wp2
      (try simp only [Exit.inBlock, Exit.then]); refine bodyPost_ret (results_none rfl _ _ _) rfl ?_
      rw [HS.out]
      exact ⟨rfl, K, ⟨_, HR.out.1⟩, HR.out.2⟩
    · have h1 : 4294967296 ≤ v := by
        rcases hw with h | h
        · exact absurd h h0
        · exact h
      clear he c0 hw
      go_enter Try.func58, Try.ntmps58
      go_wp2_with fail
      refine (greatest_any 4 (by omega) _).mono ?_
      rintro e w1 ⟨rfl, hw1⟩
      subst hw1
      rw [show (256 : Int) ^ 4 - 1 = 4294967295 from rfl]
      go_wp2
      (try simp only [Exit.inBlock, Exit.then]); refine bodyPost_ret (results_none rfl _ _ _) rfl ?_
      rw [HS.out]
      exact ⟨rfl, K, ⟨_, HR.out.1⟩, HR.out.2⟩
  case neg =>
    obtain ⟨M, rfl⟩ : ∃ M : Nat, A = M := ⟨A.toNat, by omega⟩
    have HS : Hid (patchSt st M v = { st with l := patchL st.l M v 4 }) := by show _ = _; unfold patchSt; rw [if_neg (by simp [he]), if_neg (by omega), if_neg hw]; rfl
    have h0 : ¬ v < 0 := fun h => hw (.inl h)
    have h1 : ¬ 4294967296 ≤ v := fun h => hw (.inr h)
    have hfit : M + 4 ≤ st.l.length := by omega
    obtain ⟨b, p', hv', hp1, hp2⟩ := H.out.o.some (by omega)
    simp only [Value.slice.injEq] at hv'
    obtain ⟨rfl, -, rfl⟩ := hv'
    clear he c0 hw
    go_enter Try.func58, Try.ntmps58
    go_wp2_with fail
    refine (greatest_any 4 (by omega) _).mono ?_
    rintro e w1 ⟨rfl, hw1⟩
    subst hw1
    rw [show (256 : Int) ^ 4 - 1 = 4294967295 from rfl]
    go_wp2_with fail
    refine (bytesOf_any v 4 (by omega) (by omega) hv1 _).mono ?_
    rintro e w2 ⟨a2, p2, rfl, ho2, hb2⟩
    obtain ⟨b2, p2', hv2, hq1, hq2⟩ := ho2.some (by rw [length_bytesLE]; omega)
    simp only [Value.slice.injEq] at hv2
    obtain ⟨rfl, -, rfl⟩ := hv2
    have h2 : BuV false w2 K g (.slice (some ⟨b, 0, none⟩) st.l.length p) st := H.out.far hb2.size (fun k hk => hb2.block k (H.out.sup k hk))
    have HB2 := hide h2
    have HF2 : Hid (Fr K K w1 w2) := Fr.of_below hb2
    have hb2l := (ho2.lt b2 rfl).1
    have HBne : Hid (b ≠ b2 ∧ g ≠ b2) := by
      have e1 := (H.out.o.lt b rfl).2
      have e2 := H.out.s.lt
      exact ⟨by omega, by omega⟩
    have HO2 : Hid (∀ k, k < 4 → w2.cell? ⟨b2, k, none⟩ = some (.int .u8 (v / 256 ^ k % 256))) := fun k hk => by
      rw [(ho2.cellAt (j := k) (by rw [length_bytesLE]; exact hk)).1, bytesLE_get v 4 k hk]
    have hlen : (bytesLE v 4).length = 4 := length_bytesLE _ _
    rw [hlen]
    clear h2 ho2 hb2 c1 c2 hfz hb2l hlen
    go_wp2
    go_loopw [7] (fun i wr => ∃ k : Nat, k ≤ 4 ∧ i = .int .i64 k ∧ Hid (BuV false wr K g (.slice (some ⟨b, 0, none⟩) st.l.length p) { st with l := patchL st.l M v k } ∧ Fr K K w1 wr ∧ wr.heap[b2]? = w2.heap[b2]?)) (fun i _ => 4 - (intOf i).toNat)
    case atStart => exact ⟨0, Nat.zero_le _, rfl, HB2.out, HF2.out, rfl⟩
    case round =>
      obtain ⟨k, hk, rfl, HQ⟩ := hrel
      by_cases hlt : k < 4
      · obtain ⟨l1, HL1⟩ : ∃ l1, Hid (l1 = patchL st.l M v k) := ⟨_, rfl⟩
        have hq := HQ.out.1
        have HF1 := hide HQ.out.2
        have hll : l1.length = st.l.length := by rw [HL1.out, length_patchL]
        rw [← HL1.out, ← hll] at hq
        obtain ⟨c0, c1, c2⟩ := S3.at hq.s
        rw [hll] at c1
        obtain ⟨d0, df⟩ := hq.o.cellAt (j := M + k) (by show M + k < l1.length; omega)
        obtain ⟨c, HC⟩ : ∃ c, Hid (c = v / 256 ^ k % 256) := ⟨_, rfl⟩
        have x0 : wr.cell? ⟨b2, k, none⟩ = some (.int .u8 c) := by
          rw [World.cell?_of_block (w := w2) HF1.out.2, HO2.out k hlt, HC.out]
        have hin : M + k < st.l.length := by omega
        have HN : Hid (BuV false (wr.setCell ⟨b, M + k, none⟩ (.int .u8 c)).drew K g (.slice (some ⟨b, 0, none⟩) st.l.length p) { st with l := patchL st.l M v (k + 1) } ∧ Fr K K w1 (wr.setCell ⟨b, M + k, none⟩ (.int .u8 c)).drew ∧ (wr.setCell ⟨b, M + k, none⟩ (.int .u8 c)).drew.heap[b2]? = w2.heap[b2]?) := by
          have hs := hq.o.setAt (j := M + k) c
          obtain ⟨h1, h2⟩ := hq.over (b := b) (o := M + k) (u := .int .u8 c) rfl hs
          have e : patchL st.l M v (k + 1) = l1.set (M + k) c := by rw [patchL, ← HL1.out, HC.out]
          rw [e, ← hll]
          exact ⟨h1.far (Nat.le_refl _) (fun _ _ => rfl), (HF1.out.1.trans h2).drewN 1, (setCell_others wr b (M + k) _ b2 (fun e => HBne.out.1 e.symm)).trans HF1.out.2⟩
        have hwa : IntKind.i64.wrap ((M : Int) + (k : Int)) = ((M + k : Nat) : Int) := by rw [IntKind.wrap_i64]; omega
        clear hq HQ c0 c2 hll
        go_wp2
        go_region
        go_wp2
        go_roundw
        case rel => exact ⟨k + 1, by omega, by go_num, HN.out⟩
        case measure => simp [intOf]; omega
      · have hkn : k = 4 := by omega
        subst hkn
        go_wp2
        (try simp only [Exit.inBlock, Exit.then]); refine bodyPost_end (results_none rfl _ _ _) rfl ?_
        rw [HS.out]
        exact ⟨rfl, K, ⟨_, HQ.out.1⟩, HQ.out.2.1⟩
end Go.Proofs.Ythjgabncifghaab
