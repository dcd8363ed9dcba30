import Derived.Test.YtjhgjohnfkgleabRord
namespace Go.Proofs.Ytjhgjohnfkgleab
open Go.RowKit Go.Maps
set_option maxRecDepth 20000

theorem btw_nil (v : Value) (lo : Nat) (w : World) :
    Calls Try.prog 34 #[v, .int .i64 lo, .int .i64 lo] w fun e w' => e = .returned (.slice none 0 0) ∧ w' = w := by
  go_enter Try.func34, Try.ntmps34
  go_wp2
  go_ret
  exact ⟨rfl, rfl⟩

theorem btw_one (v : Value) (lo hi : Nat) (w : World) (h1 : (hi : Int) - lo = 1) :
    Calls Try.prog 34 #[v, .int .i64 lo, .int .i64 hi] w fun e w' => e = .returned (.slice (some ⟨w.heap.size, 0, none⟩) 1 1) ∧ w' = w.alloc (.cells #[.int .i64 lo] 3) := by
  go_enter Try.func34, Try.ntmps34
  go_wp2
  go_ret
  exact ⟨rfl, rfl⟩

set_option maxHeartbeats 600000 in
theorem between_any (v : Value) (keys : List Int) (hk : keys.length ≤ 6000000000000) : ∀ (n lo hi : Nat) (w : World), SI w v keys → hi = lo + n → hi ≤ keys.length →
    Calls Try.prog 34 #[v, .int .i64 lo, .int .i64 hi] w fun e w' => ∃ (l : List Int) (a : Option Addr) (c : Nat), e = .returned (.slice a l.length c) ∧ OI w' w.heap.size (.slice a l.length c) l ∧ Below w.heap.size w w' ∧ l.Perm (places lo n) ∧ l.Pairwise (Ah keys) := by
  intro n
  induction n using Nat.strongRecOn with
  | ind n ih =>
    intro lo hi w hs he hle
    have HS := hide hs
    have HE := hide he
    have HIH := hide ih
    by_cases h0 : n = 0
    · obtain rfl : hi = lo := by omega
      refine (btw_nil v hi w).mono ?_
      rintro e w' ⟨rfl, rfl⟩
      refine ⟨[], none, 0, rfl, World.ownsRow_nil _ _ _ _, Below.refl _ _, ?_, List.Pairwise.nil⟩
      rw [h0]; exact List.Perm.refl _
    · by_cases h1 : n = 1
      · refine (btw_one v lo hi w (by omega)).mono ?_
        rintro e w' ⟨rfl, rfl⟩
        refine ⟨[(lo : Int)], some ⟨w.heap.size, 0, none⟩, 1, rfl, ?_, (Below.refl _ _).alloc (Nat.le_refl _) _, ?_, List.pairwise_singleton _ _⟩
        · exact OI.of_full (l := [(lo : Int)]) (heap_alloc_new w _) (Nat.le_refl _) (by show 1 ≤ maxLen; unfold maxLen; omega)
        · rw [h1]; exact List.Perm.refl _
      · have hd : ¬ (hi : Int) - lo < 1 := by omega
        have hd1 : ¬ (hi : Int) - lo = 1 := by omega
        obtain ⟨mid, hmid⟩ : ∃ mid : Nat, mid = lo + n / 2 := ⟨_, rfl⟩
        have em : (lo : Int) + ((hi : Int) - lo) / 2 = (mid : Int) := by omega
        have HMID := hide hmid
        have hA := ih (n / 2) (by omega) lo mid w hs hmid (by omega)
        clear hs he ih hmid
        go_enter Try.func34, Try.ntmps34
        go_wp2_with fail
        refine hA.mono ?_
        rintro e w1 ⟨la, a1, c1, rfl, oa, ba, pa, sa⟩
        have hB := HIH.out (n - n / 2) (by omega) mid hi w1 (HS.out.below ba) (by have := HE.out; have := HMID.out; omega) (by omega)
        have HA := hide (And.intro oa (And.intro ba (And.intro pa sa)))
        clear oa ba pa sa hA
        go_wp2_with fail
        refine hB.mono ?_
        rintro e w2 ⟨lb, a2, c2, rfl, ob, bb, pb, sb⟩
        obtain ⟨oa, ba, pa, sa⟩ := HA.out
        have hla : ∀ x ∈ la, (lo : Int) ≤ x ∧ x < (lo : Int) + (n / 2 : Nat) := fun x hx => places_mem (pa.mem_iff.1 hx)
        have hlb : ∀ x ∈ lb, (mid : Int) ≤ x ∧ x < (mid : Int) + (n - n / 2 : Nat) := fun x hx => places_mem (pb.mem_iff.1 hx)
        have e1 := pa.length_eq
        have e2 := pb.length_eq
        rw [places_len] at e1 e2
        have hEo := HE.out
        have hMo := HMID.out
        have hM := merge_any v (.slice a1 la.length c1) (.slice a2 lb.length c2) keys la lb w2 ((HS.out.below ba).below bb) (oa.sb.below bb) ob.sb (fun x hx => by have := hla x hx; omega) (fun x hx => by have := hlb x hx; omega) (by omega)
        have HFIN : Hid ((mrgL keys la lb).Perm (places lo n) ∧ (mrgL keys la lb).Pairwise (Ah keys)) := by
          refine ⟨?_, mrgL_sorted keys la lb sa sb fun x hx y hy => ?_⟩
          · refine (mrgL_perm keys la lb).trans ?_
            have := places_split lo (n / 2) (n - n / 2)
            rw [show n / 2 + (n - n / 2) = n by omega, ← hMo] at this
            rw [this]
            exact pa.append pb
          · have := hla x hx
            have := hlb y hy
            omega
        have HB2 := hide (ba.trans (bb.mono ba.size))
        have HB3 := hide (Nat.le_trans ba.size bb.size)
        clear oa ba pa sa ob bb pb sb hla hlb e1 e2 hEo hMo hB HA
        go_wp2_with fail
        refine hM.mono ?_
        rintro e w3 ⟨a3, c3, rfl, o3, b3⟩
        have HO := hide (And.intro o3 b3)
        clear o3 b3 hM
        go_wp2
        go_ret
        exact ⟨mrgL keys la lb, a3, c3, rfl, HO.out.1.base HB3.out, HB2.out.trans (HO.out.2.mono HB3.out), HFIN.out.1, HFIN.out.2⟩

theorem rorder_any (v : Value) (keys : List Int) (w : World) (hs : SI w v keys) (hk : keys.length ≤ 6000000000000) :
    Calls Try.prog 20 #[v] w fun e w' => ∃ a c, e = .returned (.slice a keys.length c) ∧ OI w' w.heap.size (.slice a keys.length c) (orderOf keys) ∧ Below w.heap.size w w' := by
  have hB := between_any v keys hk keys.length 0 keys.length w hs (by omega) (Nat.le_refl _)
  obtain ⟨ao, cap, rfl⟩ := hs.len
  go_enter Try.func20, Try.ntmps20
  go_wp2_with fail
  refine hB.mono ?_
  rintro e w1 ⟨l, a, c, rfl, o, b, p, s⟩
  obtain rfl := order_unique s p
  go_wp2
  go_ret
  rw [orderOf_len] at o ⊢
  exact ⟨a, c, rfl, o, b⟩

end Go.Proofs.Ytjhgjohnfkgleab
