import Derived.Test.YtmbgjkghcpkoiaaGExt
import Derived.Test.YtmbgjkghcpkoiaaGSpq
import Derived.Test.YtmbgjkghcpkoiaaGQf
namespace Go.Proofs.Ytmbgjkghcpkoiaa
open Go.RowKit Go.Maps
set_option maxRecDepth 20000
set_option linter.unusedVariables false
set_option linter.unusedSimpArgs false

set_option maxHeartbeats 8000000 in
theorem zextents_any (v : Value) (R : List Ent) (d s : Int) (cm : ByteArray) (w : World) (h : SR 20 w v (R.map Ent.cs)) (hn : R.length ≤ 733007751829) :
    Calls Try.prog 9 #[.agg #[v, .int .i64 d, .int .i64 s, .string cm]] w fun e w' => ∃ a c, e = .returned (.slice a R.length c) ∧ OR 39 2 w' w.heap.size (.slice a R.length c) ((srtS (R.map Ent.frm) (R.map eS)).map spC) ∧ Below w.heap.size w w' := by
  have HL := hide h
  obtain ⟨ca, ccap, rfl, c1, c2⟩ := h.open
  rw [List.length_map] at c1
  have elc : (R.map Ent.cs).length = R.length := List.length_map ..
  rw [elc] at HL ⊢
  clear h elc
  have hb1 : Below w.heap.size w (w.alloc (.cells #[.slice ca R.length ccap, .int .i64 d, .int .i64 s, .string cm] 24)) := (Below.refl _ _).alloc (Nat.le_refl _) _
  have hx1 : (w.alloc (.cells #[.slice ca R.length ccap, .int .i64 d, .int .i64 s, .string cm] 24)).heap[w.heap.size]? = some (.cells #[.slice ca R.length ccap, .int .i64 d, .int .i64 s, .string cm] 24) := heap_alloc_new _ _
  have hz1 : (w.alloc (.cells #[.slice ca R.length ccap, .int .i64 d, .int .i64 s, .string cm] 24)).heap.size = w.heap.size + 1 := size_alloc' _ _
  obtain ⟨w1, hw1⟩ : ∃ y, w.alloc (.cells #[.slice ca R.length ccap, .int .i64 d, .int .i64 s, .string cm] 24) = y := ⟨_, rfl⟩
  rw [hw1] at hb1 hx1 hz1
  have q0 : w1.cell? ⟨w.heap.size, 0, none⟩ = some (.slice ca R.length ccap) := by simp [World.cell?, hx1]
  have HB1 := hide hb1
  have HZ1 := hide hz1
  have HQ0 := hide q0
  clear hb1 hx1 hz1
  go_enter Try.func9, Try.ntmps9
  go_wp2
  go_loopw [3, 4] (fun pv iv wr => ∃ (j : Nat) (pa : Option Addr) (pc : Nat) (P : List (Array Value)), pv = .slice pa j pc ∧ iv = .int .i64 (j : Int) ∧ j ≤ R.length ∧ Hid (P.length = j ∧ P = ((R.take j).map Ent.frm).map kC) ∧ Hid (OR 3 1 wr w1.heap.size (.slice pa j pc) P) ∧ Hid (Below w1.heap.size w1 wr)) (fun _ iv _ => R.length - (intOf iv).toNat)
  case atStart => exact ⟨0, none, 0, [], rfl, rfl, Nat.zero_le _, ⟨rfl, rfl⟩, OR.nil _ _ _ _, Below.refl _ _⟩
  case round =>
    obtain ⟨j, pa, pc, P, rfl, rfl, hj, HN, HP, HB⟩ := hrel
    clear q0
    have q0 : wr.cell? ⟨w.heap.size, 0, none⟩ = some (.slice ca R.length ccap) := (HB.out.cell (by show w.heap.size < _; have := HZ1.out; omega)).trans HQ0.out
    by_cases hlt : j < R.length
    · have hlt' : (j : Int) < (R.length : Int) := by omega
      have hbw := HB1.out.trans (HB.out.mono HB1.out.size)
      obtain ⟨b0, o0, hla, hbl, hrg⟩ := srLt (HL.out.low hbw) (i := j) (by rw [List.length_map]; exact hlt)
      rw [csN_get hlt] at hrg
      have HTK := hide (takeN hlt)
      obtain ⟨l, hl⟩ : ∃ l, l = R.getD j Ent.zero := ⟨_, rfl⟩
      rw [← hl] at hrg HTK
      have g17 := range_cell hrg (i := 17) (u := .int .i64 l.frm) rfl
      obtain ⟨F, hF⟩ : ∃ F, F = l.frm := ⟨_, rfl⟩
      have HFe := hide hF
      rw [← hF] at g17
      subst hla
      clear hl hrg hF hbl hbw
      have HPa := hide (HP.out.alloc (.cells #[.int .i64 F] 3))
      go_wp2_with (at_builtin; refine wpRow rfl _ _ 41 3 1 8 _ rfl Try.underlying41 infoI13 rfl (by omega) w1.heap.size (.slice pa j pc) P #[.int .i64 F] wr.heap.size 1 (0, 0) rfl HPa.out rfl (heap_alloc_new _ _) rfl (by simp [Value.oneCell']) (by rw [HN.out.1]; omega) (by rw [HN.out.1]; omega) (by rw [size_alloc']; have := HB.out.size; omega) ?_)
      intro v3 w3 ho3 hg3 hat3
      have HB3 : Hid (Below w1.heap.size w1 w3) := (HB.out.alloc HB.out.size _).grown hg3 (by rw [size_alloc']; have := HB.out.size; omega) (fun k hk => (HP.out.lt k hk).1)
      obtain ⟨a3, c3, hv3, z1, z2⟩ := ho3.shape
      rw [List.length_append, HN.out.1, List.length_singleton] at hv3
      subst hv3
      have HP3 := hide ho3
      have HN3 : Hid ((P ++ [#[Value.int .i64 F]]).length = j + 1 ∧ P ++ [#[Value.int .i64 F]] = ((R.take (j + 1)).map Ent.frm).map kC) := ⟨by rw [List.length_append, HN.out.1]; rfl, by rw [HTK.out, List.map_append, List.map_append, ← HN.out.2, HFe.out]; rfl⟩
      clear ho3 hg3 hat3 z1 z2 q0 HN HP HB HPa
      go_wp2
      go_roundw
      case rel => exact ⟨j + 1, a3, c3, _, rfl, by go_num, by omega, HN3.out, HP3.out, HB3.out⟩
      case measure => simp [intOf]; omega
    · have hlt' : ¬ (j : Int) < (R.length : Int) := by omega
      obtain rfl : j = R.length := by omega
      have ht : R.take R.length = R := List.take_of_length_le (Nat.le_refl _)
      have hp := HP.out
      rw [HN.out.2, ht] at hp
      have hO := H4.rorder_any _ (R.map Ent.frm) wr (or_oi hp).sb (by rw [List.length_map]; omega)
      rw [List.length_map] at hO
      have HO := hide hO
      clear hp ht HN HP hO
      go_wp2_with fail
      refine HO.out.mono ?_
      rintro e w3 ⟨ao, co, rfl, o3, b3⟩
      have HB3 := hide (HB.out.trans (b3.mono HB.out.size))
      have HI3 := hide o3.sb
      obtain ⟨hco1, hco2⟩ : R.length ≤ co ∧ co ≤ 9223372036854775807 := by
        obtain ⟨a9, c9, h9, h8, h7, _⟩ := o3.sb
        simp only [Value.slice.injEq] at h9
        obtain ⟨-, -, rfl⟩ := h9
        rw [H4.orderOf_len, List.length_map] at h8
        unfold maxLen at h7
        exact ⟨h8, h7⟩
      clear o3 b3 HO q0 HB
      go_wp2
      go_loopw [6, 7, 8] (fun sv iv _ wr => ∃ (k : Nat) (a : Option Addr) (c : Nat) (S : List (Array Value)), sv = .slice a k c ∧ iv = .int .i64 (k : Int) ∧ k ≤ R.length ∧ Hid (S.length = k ∧ S = ((srtS (R.map Ent.frm) (R.map eS)).take k).map spC) ∧ Hid (OR 39 2 wr w3.heap.size (.slice a k c) S) ∧ Hid (Below w3.heap.size w3 wr)) (fun _ iv _ _ => R.length - (intOf iv).toNat)
      case atStart => exact ⟨0, none, 0, [], rfl, rfl, Nat.zero_le _, ⟨rfl, rfl⟩, OR.nil _ _ _ _, Below.refl _ _⟩
      case round =>
        obtain ⟨k, a, c, S, rfl, rfl, hk, HN, HO, HB⟩ := hrel
        by_cases hlt : k < R.length
        · have hlt' : (k : Int) < (R.length : Int) := by omega
          have hbw1 := HB3.out.trans (HB.out.mono HB3.out.size)
          have hbw := HB1.out.trans (hbw1.mono HB1.out.size)
          have q0 : wr.cell? ⟨w.heap.size, 0, none⟩ = some (.slice ca R.length ccap) := (hbw1.cell (by show w.heap.size < _; have := HZ1.out; omega)).trans HQ0.out
          have hlo : k < (H4.orderOf (R.map Ent.frm)).length := by rw [H4.orderOf_len, List.length_map]; exact hlt
          obtain ⟨b, o, hab, d1⟩ := siNth (HI3.out.below HB.out) hlo
          have hr1 := H4.order_mem (keys := R.map Ent.frm) (x := (H4.orderOf (R.map Ent.frm)).getD k 0) (by simp [List.getD, hlo])
          have HT := hide (srtS_take (keys := R.map Ent.frm) (vals := R.map eS) (k := k) (by rw [List.length_map]; exact hlt))
          obtain ⟨x, hx⟩ : ∃ x : Nat, (H4.orderOf (R.map Ent.frm)).getD k 0 = x := Int.eq_ofNat_of_zero_le hr1.1
          rw [hx] at d1 hr1 HT
          rw [List.length_map] at hr1
          have hx1 : (x : Int) < (R.length : Int) := by have := hr1.2; omega
          have hx2 : x < R.length := by omega
          obtain ⟨b1, o1, hla, hbl, hrg⟩ := srLt (HL.out.low hbw) (i := x) (by rw [List.length_map]; exact hx2)
          rw [csN_get hx2] at hrg
          simp only [Int.toNat_natCast] at HT
          have e5 : (R.map eS).getD x (0, 0) = eS (R.getD x Ent.zero) := by simp [List.getD, hx2]
          rw [e5] at HT
          obtain ⟨l, hl⟩ : ∃ l, l = R.getD x Ent.zero := ⟨_, rfl⟩
          rw [← hl] at hrg HT
          obtain ⟨A, hA⟩ : ∃ A, A = l.cs := ⟨_, rfl⟩
          obtain ⟨F, hF⟩ : ∃ F, F = l.frm := ⟨_, rfl⟩
          obtain ⟨T, hT⟩ : ∃ T, T = l.til := ⟨_, rfl⟩
          have HA17 : Hid (A[17]? = some (.int .i64 F)) := by show _ = _; rw [hA, hF]; rfl
          have HA19 : Hid (A[19]? = some (.int .i64 T)) := by show _ = _; rw [hA, hT]; rfl
          have HES : Hid (eS l = (F, T)) := by show _ = _; rw [hF, hT]; rfl
          have HSA : Hid (A.size = 20) := by rw [hA]; exact rsN _
          have HOA : Hid (A.all (·.oneCell') = true) := by rw [hA]; exact roN _
          rw [← hA] at hrg
          have HSS : Hid (wr.cell? ⟨w.heap.size, 0, none⟩ = some (.slice ca R.length ccap) ∧ wr.cell? ⟨b, o + k, none⟩ = some (.int .i64 (x : Int)) ∧ wr.rangeAt b1 (o1 + x * 20) A.toList) := ⟨q0, d1, hrg⟩
          have HKP : Hid (∀ W, Below wr.heap.size wr W → W.cell? ⟨w.heap.size, 0, none⟩ = some (.slice ca R.length ccap) ∧ W.cell? ⟨b, o + k, none⟩ = some (.int .i64 (x : Int)) ∧ W.rangeAt b1 (o1 + x * 20) A.toList) := fun W hW => ⟨(hW.cell (World.block_lt_of_cell? _ _ HSS.out.1)).trans HSS.out.1, (hW.cell (World.block_lt_of_cell? _ _ HSS.out.2.1)).trans HSS.out.2.1, range_low HSS.out.2.2 hW⟩
          subst hab hla
          clear hx hl hA hF hT hrg hr1 hlo e5 hbl q0 d1 hbw hbw1
          go_wp2
          refine wp_region_held_drew (S := fun W => W.cell? ⟨w.heap.size, 0, none⟩ = some (.slice (some ⟨b1, o1, none⟩) R.length ccap) ∧ W.cell? ⟨b, o + k, none⟩ = some (.int .i64 (x : Int)) ∧ W.rangeAt b1 (o1 + x * 20) A.toList) (by kernel_rfl) ⟨HSS.out.1, HSS.out.2.1, HSS.out.2.2⟩ (fun hHeld => ?_)
          refine wpAnyH_take (i := 0) (v := .pointer (some ⟨w.heap.size, 0, none⟩)) rfl (by kernel_rfl) (by kernel_rfl) (by kernel_rfl) (fun _ _ _ h => h) (Or.inl ⟨by kernel_rfl, ?_⟩) hHeld ?_
          · intro W hSw
            have s1 := hSw.1
            have s2 := hSw.2.1
            go_simp
          show wpAnyH _ _ _ _ _ _ _ (Act.put _ (some 33) _) _
          simp only [Act.put, List.setIfInBounds_toArray, List.set_cons_zero, List.set_cons_succ]
          refine wpAnyH_take (i := 1) (v := .slice (some ⟨b1, o1, none⟩) R.length ccap) rfl (by kernel_rfl) (by kernel_rfl) (by kernel_rfl) (fun _ _ _ h => h) (Or.inl ⟨by kernel_rfl, ?_⟩) hHeld ?_
          · intro W hSw
            have s1 := hSw.1
            have s2 := hSw.2.1
            go_simp
          show wpAnyH _ _ _ _ _ _ _ (Act.put _ (some 34) _) _
          simp only [Act.put, List.setIfInBounds_toArray, List.set_cons_zero, List.set_cons_succ]
          refine wpAnyH_take (i := 2) (v := .slice (some ⟨b, o, none⟩) R.length co) rfl (by kernel_rfl) (by kernel_rfl) (by kernel_rfl) (fun _ _ _ h => h) (Or.inl ⟨by kernel_rfl, ?_⟩) hHeld ?_
          · intro W hSw
            have s1 := hSw.1
            have s2 := hSw.2.1
            go_simp
          show wpAnyH _ _ _ _ _ _ _ (Act.put _ (some 35) _) _
          simp only [Act.put, List.setIfInBounds_toArray, List.set_cons_zero, List.set_cons_succ]
          refine wpAnyH_take (i := 3) (v := .int .i64 (k : Int)) rfl (by kernel_rfl) (by kernel_rfl) (by kernel_rfl) (fun _ _ _ h => h) (Or.inl ⟨by kernel_rfl, ?_⟩) hHeld ?_
          · intro W hSw
            have s1 := hSw.1
            have s2 := hSw.2.1
            go_simp
          show wpAnyH _ _ _ _ _ _ _ (Act.put _ (some 36) _) _
          simp only [Act.put, List.setIfInBounds_toArray, List.set_cons_zero, List.set_cons_succ]
          refine wpAnyH_take (i := 4) (v := .pointer (some ⟨b, o + k, none⟩)) rfl (by kernel_rfl) (by kernel_rfl) (by kernel_rfl) (fun _ _ _ h => h) (Or.inl ⟨by kernel_rfl, ?_⟩) hHeld ?_
          · intro W hSw
            have s1 := hSw.1
            have s2 := hSw.2.1
            go_simp
          show wpAnyH _ _ _ _ _ _ _ (Act.put _ (some 37) _) _
          simp only [Act.put, List.setIfInBounds_toArray, List.set_cons_zero, List.set_cons_succ]
          refine wpAnyH_take (i := 5) (v := .int .i64 (x : Int)) rfl (by kernel_rfl) (by kernel_rfl) (by kernel_rfl) (fun _ _ _ h => h) (Or.inl ⟨by kernel_rfl, ?_⟩) hHeld ?_
          · intro W hSw
            have s1 := hSw.1
            have s2 := hSw.2.1
            go_simp
          show wpAnyH _ _ _ _ _ _ _ (Act.put _ (some 38) _) _
          simp only [Act.put, List.setIfInBounds_toArray, List.set_cons_zero, List.set_cons_succ]
          refine wpAnyH_take (i := 6) (v := .pointer (some ⟨b1, o1 + x * 20, none⟩)) rfl (by kernel_rfl) (by kernel_rfl) (by kernel_rfl) (fun _ _ _ h => h) (Or.inl ⟨by kernel_rfl, ?_⟩) hHeld ?_
          · intro W hSw
            have s1 := hSw.1
            have s2 := hSw.2.1
            go_simp
          show wpAnyH _ _ _ _ _ _ _ (Act.put _ (some 39) _) _
          simp only [Act.put, List.setIfInBounds_toArray, List.set_cons_zero, List.set_cons_succ]
          refine wpAnyH_take (i := 7) (v := .agg A.toList.toArray) rfl (by kernel_rfl) (by kernel_rfl) (by kernel_rfl) (fun _ _ _ h => h) (yieldsIf_load_mid (by kernel_rfl) 32 _ rfl b1 (o1 + x * 20) rfl A.toList _ (fun W hW => hW.2.2) Try.underlying32 rfl (by rw [Array.length_toList, HSA.out]; exact rzN)) hHeld ?_
          show wpAnyH _ _ _ _ _ _ _ (Act.put _ (some 40) _) _
          simp only [Act.put, List.setIfInBounds_toArray, List.set_cons_zero, List.set_cons_succ]
          refine wpAnyH_ready (rs := [8]) (by kernel_rfl) (by simp) ?_
          refine AllReadyH.cons rfl (fun K hK => ?_) AllReadyH.nil
          go_simp
          refine hK.out _ _ (HKP.out _ ((Below.refl _ _).drew.alloc (Nat.le_refl _) _)) (fun hHeld2 => ?_)
          clear hK K hHeld
          have hHeld := hHeld2
          clear hHeld2
          try simp only [Act.put, List.setIfInBounds_toArray, List.set_cons_zero, List.set_cons_succ]
          refine wpAnyH_ready (rs := [9]) (by kernel_rfl) (by simp) ?_
          refine AllReadyH.cons rfl (fun K hK => ?_) AllReadyH.nil
          rw [if_pos (by rfl)]
          refine wp_store_row 32 _ _ rfl wr.heap.size A (by rfl) (by simp [Act.eval]) 32 #[.int .i64 0, .int .i64 0, .int .i64 0, .int .i64 0, .int .i64 0, .int .u32 0, .int .i64 0, .int .i64 0, .string ⟨#[]⟩, .string ⟨#[]⟩, .int .i64 0, .int .i64 0, .int .i64 0, .int .i64 0, .int .i64 0, .string ⟨#[]⟩, .string ⟨#[]⟩, .int .i64 0, .int .i64 0, .int .i64 0] (heap_alloc_new wr.drew _) (by rw [HSA.out]; exact rzN) (by rw [HSA.out]; rfl) HOA.out ?_
          have ew : (wr.drew.alloc (.cells #[.int .i64 0, .int .i64 0, .int .i64 0, .int .i64 0, .int .i64 0, .int .u32 0, .int .i64 0, .int .i64 0, .string ⟨#[]⟩, .string ⟨#[]⟩, .int .i64 0, .int .i64 0, .int .i64 0, .int .i64 0, .int .i64 0, .string ⟨#[]⟩, .string ⟨#[]⟩, .int .i64 0, .int .i64 0, .int .i64 0] 32)).setRow wr.heap.size A = wr.drew.alloc (.cells A 32) := World.setRow_alloc_new wr.drew _ A 32
          show K (Act.put _ none undef) ((wr.drew.alloc (.cells #[.int .i64 0, .int .i64 0, .int .i64 0, .int .i64 0, .int .i64 0, .int .u32 0, .int .i64 0, .int .i64 0, .string ⟨#[]⟩, .string ⟨#[]⟩, .int .i64 0, .int .i64 0, .int .i64 0, .int .i64 0, .int .i64 0, .string ⟨#[]⟩, .string ⟨#[]⟩, .int .i64 0, .int .i64 0, .int .i64 0] 32)).setRow wr.heap.size A)
          rw [ew]
          refine hK.out _ _ (HKP.out _ ((Below.refl _ _).drew.alloc (Nat.le_refl _) _)) (fun hHeld2 => ?_)
          clear hK K hHeld ew
          try simp only [Act.put, List.setIfInBounds_toArray, List.set_cons_zero, List.set_cons_succ]
          refine wpAnyH_done (by kernel_rfl) ?_ _
          clear hHeld2
          have HBa : Hid (Below w3.heap.size w3 (wr.drew.alloc (.cells A 32))) := HB.out.drew.alloc HB.out.size _
          have HOa : Hid (OR 39 2 (wr.drew.alloc (.cells A 32)) w3.heap.size (.slice a k c) S) := OR.alloc (HO.out.move fun _ _ => rfl) _
          have hbx : (wr.drew.alloc (.cells A 32)).heap[wr.heap.size]? = some (.cells A 32) := heap_alloc_new wr.drew _
          obtain ⟨w4, hw4⟩ : ∃ y, wr.drew.alloc (.cells A 32) = y := ⟨_, rfl⟩
          rw [hw4] at HBa HOa hbx ⊢
          have r17 : w4.cell? ⟨wr.heap.size, 17, none⟩ = some (.int .i64 F) := by simp only [World.cell?, hbx]; exact HA17.out
          have r19 : w4.cell? ⟨wr.heap.size, 19, none⟩ = some (.int .i64 T) := by simp only [World.cell?, hbx]; exact HA19.out
          have HOA2 := hide (HOa.out.alloc (.cells #[.int .i64 F, .int .i64 T] 39))
          clear hw4 hbx HKP HSS
          go_wp2_with (at_builtin; refine wpRow rfl _ _ 33 39 2 16 _ rfl Try.underlying33 infoS rfl (by omega) w3.heap.size (.slice a k c) S #[.int .i64 F, .int .i64 T] w4.heap.size 1 (0, 0) rfl HOA2.out rfl (heap_alloc_new _ _) rfl (by simp [Value.oneCell']) (by rw [HN.out.1]; omega) (by rw [HN.out.1]; omega) (by rw [size_alloc']; have := HBa.out.size; omega) ?_)
          intro v5 w5 ho5 hg5 hat5
          have HB5 : Hid (Below w3.heap.size w3 w5) := (HBa.out.alloc HBa.out.size _).grown hg5 (by rw [size_alloc']; have := HBa.out.size; omega) (fun k hk => (HOa.out.lt k hk).1)
          obtain ⟨a5, c5, hv5, z1, z2⟩ := ho5.shape
          rw [List.length_append, HN.out.1, List.length_singleton] at hv5
          subst hv5
          have HO5 := hide ho5
          have HN5 : Hid ((S ++ [#[Value.int .i64 F, Value.int .i64 T]]).length = k + 1 ∧ S ++ [#[Value.int .i64 F, Value.int .i64 T]] = ((srtS (R.map Ent.frm) (R.map eS)).take (k + 1)).map spC) := ⟨by rw [List.length_append, HN.out.1]; rfl, by rw [HT.out, List.map_append, ← HN.out.2, HES.out]; rfl⟩
          clear ho5 hg5 hat5 z1 z2 r17 r19 HN HO HB
          go_wp2
          go_roundw
          case rel => exact ⟨k + 1, a5, c5, _, rfl, by go_num, by omega, HN5.out, HO5.out, HB5.out⟩
          case measure => simp [intOf]; omega
        · have hlt' : ¬ (k : Int) < (R.length : Int) := by omega
          obtain rfl : k = R.length := by omega
          have hf := HO.out
          rw [HN.out.2, List.take_of_length_le (by rw [srtS_len, List.length_map]; exact Nat.le_refl _)] at hf
          have HB4 := hide (HB3.out.trans (HB.out.mono HB3.out.size))
          have HF := hide (hf.base (Nat.le_trans HB1.out.size HB3.out.size))
          have HBf := hide (HB1.out.trans (HB4.out.mono HB1.out.size))
          clear hf
          go_wp2
          go_ret
          exact ⟨a, c, rfl, HF.out, HBf.out⟩
end Go.Proofs.Ytmbgjkghcpkoiaa

