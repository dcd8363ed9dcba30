import Derived.Test.YtmbgjkghcpkoiaaGZfr
import Derived.BigQuiet
namespace Go.Proofs.Ytmbgjkghcpkoiaa
open Go.RowKit Go.Maps
set_option maxRecDepth 20000
set_option linter.unusedVariables false
set_option linter.unusedSimpArgs false

theorem stS_take {E : List (Int × Int)} {k : Nat} (h : k < E.length) : stS (E.take (k + 1)) = stS (E.take k) ++ stN (E.getD k (0, 0)) := by
  unfold stS
  rw [List.take_succ_eq_append_getElem h, List.flatMap_append]
  simp [List.getD, h]
theorem stS_len (E : List (Int × Int)) : ∀ k, k ≤ E.length → (stS (E.take k)).length ≤ k + 1
  | 0, _ => by simp [stS]
  | k + 1, h => by
    have ih := stS_len E k (by omega)
    rw [stS_take (by omega), List.length_append]
    have : (stN (E.getD k (0, 0))).length ≤ 1 := by unfold stN; split <;> simp
    omega

theorem OR.one {w : World} {base : Nat} {x : Int} (hb : base ≤ w.heap.size) : OR 3 1 (w.alloc (.cells #[.int .i64 x] 3)) base (.slice (some ⟨w.heap.size, 0, none⟩) 1 1) [kC x] := by
  refine ⟨fun r hr => by rw [List.mem_singleton.1 hr]; rfl, by rfl, .inr ⟨w.heap.size, 1, #[.int .i64 x], rfl, hb, heap_alloc_new _ _, Nat.le_refl _, by decide, rfl, rfl⟩⟩

set_option maxHeartbeats 16000000 in
theorem zgaps_any (v : Value) (R : List Ent) (d s : Int) (cm : ByteArray) (w : World) (h : SR 20 w v (R.map Ent.cs)) (ho : ∀ e ∈ R, Ok64 e.frm ∧ Ok64 e.til) (hd : Ok64 d) (hn : R.length ≤ 733007751829) :
    Calls Try.prog 12 #[.agg #[v, .int .i64 d, .int .i64 s, .string cm]] w fun e w' => ∃ a c, e = .returned (.slice a (gps d (R.map eS)).length c) ∧ OR 39 2 w' w.heap.size (.slice a (gps d (R.map eS)).length c) ((gps d (R.map eS)).map spC) ∧ Below w.heap.size w w' := by
  have HL := hide h
  obtain ⟨ca, ccap, rfl, c1, c2⟩ := h.open
  rw [List.length_map] at c1
  have elc : (R.map Ent.cs).length = R.length := List.length_map ..
  rw [elc] at HL ⊢
  clear h elc ho
  have hb1 : Below w.heap.size w (w.alloc (.cells #[.slice ca R.length ccap, .int .i64 d, .int .i64 s, .string cm] 24)) := (Below.refl _ _).alloc (Nat.le_refl _) _
  have hx1 : (w.alloc (.cells #[.slice ca R.length ccap, .int .i64 d, .int .i64 s, .string cm] 24)).heap[w.heap.size]? = some (.cells #[.slice ca R.length ccap, .int .i64 d, .int .i64 s, .string cm] 24) := heap_alloc_new _ _
  obtain ⟨w1, hw1⟩ : ∃ y, w.alloc (.cells #[.slice ca R.length ccap, .int .i64 d, .int .i64 s, .string cm] 24) = y := ⟨_, rfl⟩
  rw [hw1] at hb1 hx1
  have HX1 := hide hx1
  have HSZ1 : Hid (w.heap.size < w1.heap.size) := (Array.getElem?_eq_some_iff.1 hx1).1
  have HD : Hid (∀ W, Below w1.heap.size w1 W → W.cell? ⟨w.heap.size, 0, none⟩ = some (.slice ca R.length ccap) ∧ W.cell? ⟨w.heap.size, 1, none⟩ = some (.int .i64 d) ∧ W.cell? ⟨w.heap.size, 2, none⟩ = some (.int .i64 s) ∧ W.cell? ⟨w.heap.size, 3, none⟩ = some (.string cm)) := fun W hW => by
    have e := (hW.block _ HSZ1.out).trans HX1.out
    exact ⟨by simp [World.cell?, e], by simp [World.cell?, e], by simp [World.cell?, e], by simp [World.cell?, e]⟩
  have HB1 := hide hb1
  clear hb1 hx1
  have HGP := hide (gps_ok (R.map eS) d)
  have HEG : Hid (∀ j, j < R.length → (R.map eS).getD j (0, 0) = ((R.getD j Ent.zero).frm, (R.getD j Ent.zero).til)) := fun j hj => eS_get hj
  have HEL : Hid ((R.map eS).length = R.length) := List.length_map ..
  obtain ⟨E, hE⟩ : ∃ E, E = R.map eS := ⟨_, rfl⟩
  have HFR := hide (fun (p : Int) W (hW : Below w.heap.size w W) => zfree_any (.slice ca R.length ccap) R d s p cm W (HL.out.low hW))
  rw [← hE] at HGP HEG HEL HFR ⊢
  obtain ⟨GG, hGG⟩ : ∃ GG, GG = gps d E := ⟨_, rfl⟩
  rw [← hGG] at HGP ⊢
  clear hGG hE
  have HST0 : Hid (stS (E.take 0) = [0]) := rfl
  have HO0 := hide (OR.one (w := w1) (base := w1.heap.size) (x := 0) (Nat.le_refl _))
  have HB0 : Hid (Below w1.heap.size w1 (w1.alloc (.cells #[.int .i64 0] 3))) := (Below.refl _ _).alloc (Nat.le_refl _) _
  go_enter Try.func12, Try.ntmps12
  go_wp2
  go_loopw [3, 4] (fun pv iv wr => ∃ (j m : Nat) (pa : Option Addr) (pc : Nat) (P : List (Array Value)), pv = .slice pa m pc ∧ iv = .int .i64 (j : Int) ∧ j ≤ R.length ∧ m ≤ j + 1 ∧ Hid (P.length = m ∧ P = (stS (E.take j)).map kC) ∧ Hid (OR 3 1 wr w1.heap.size (.slice pa m pc) P) ∧ Hid (Below w1.heap.size w1 wr)) (fun _ iv _ => R.length - (intOf iv).toNat)
  case atStart => exact ⟨0, 1, _, 1, [kC 0], rfl, rfl, Nat.zero_le _, by omega, ⟨rfl, by rw [HST0.out]; rfl⟩, HO0.out, HB0.out⟩
  case round =>
    obtain ⟨j, m, pa, pc, P, rfl, rfl, hj, hmj, HN, HP, HB⟩ := hrel
    obtain ⟨q0, q1, q2, q3⟩ := HD.out wr HB.out
    by_cases hlt : j < R.length
    · have hlt' : (j : Int) < (R.length : Int) := by omega
      have hbw := HB1.out.trans (HB.out.mono HB1.out.size)
      obtain ⟨b0, o0, hla, hbl, hrg⟩ := srLt (HL.out.low hbw) (i := j) (by rw [List.length_map]; exact hlt)
      rw [csN_get hlt] at hrg
      have HTK := hide (stS_take (E := E) (k := j) (by rw [HEL.out]; exact hlt))
      rw [HEG.out j hlt] at HTK
      obtain ⟨l, hl⟩ : ∃ l, l = R.getD j Ent.zero := ⟨_, rfl⟩
      rw [← hl] at hrg HTK
      have g17 := range_cell hrg (i := 17) (u := .int .i64 l.frm) rfl
      have g19 := range_cell hrg (i := 19) (u := .int .i64 l.til) rfl
      obtain ⟨F, hF⟩ : ∃ F, F = l.frm := ⟨_, rfl⟩
      obtain ⟨T, hT⟩ : ∃ T, T = l.til := ⟨_, rfl⟩
      rw [← hF] at g17 HTK
      rw [← hT] at g19 HTK
      subst hla
      clear hl hrg hF hT hbl hbw
      by_cases hft : F < T
      · have HTK2 : Hid (stS (E.take (j + 1)) = stS (E.take j) ++ [T]) := by show _ = _; rw [HTK.out]; unfold stN; rw [if_pos hft]
        have hdc : decide (F < T) = true := decide_eq_true hft
        clear HTK
        go_wp2
        go_quiet (fail)
        have HBd : Hid (∀ n, Below w1.heap.size w1 (wr.drewN n)) := fun n => below_drewN HB.out n
        have HPd : Hid (∀ n, OR 3 1 (wr.drewN n) w1.heap.size (.slice pa m pc) P) := fun n => HP.out.move fun _ _ => rfl
        have HPa : Hid (∀ n, OR 3 1 ((wr.drewN n).alloc (.cells #[.int .i64 T] 3)) w1.heap.size (.slice pa m pc) P) := fun n => (HPd.out n).alloc _
        go_wp2_with (at_builtin; refine wpRow rfl _ _ 41 3 1 8 _ rfl Try.underlying41 infoI13 rfl (by omega) w1.heap.size (.slice pa m pc) P #[.int .i64 T] wr.heap.size 1 (0, 0) rfl (HPa.out _) rfl (heap_alloc_new _ _) rfl (by simp [Value.oneCell']) (by rw [HN.out.1]; omega) (by rw [HN.out.1]; omega) (by rw [size_alloc']; have := HB.out.size; exact Nat.le_succ_of_le this) ?_)
        intro v3 w3 ho3 hg3 hat3
        have h0 := HBd.out nq
        have HB3 : Hid (Below w1.heap.size w1 w3) := (h0.alloc h0.size _).grown hg3 (by rw [size_alloc']; have := HB.out.size; exact Nat.le_succ_of_le this) (fun k hk => (HP.out.lt k hk).1)
        obtain ⟨a3, c3, hv3, z1, z2⟩ := ho3.shape
        rw [List.length_append, HN.out.1, List.length_singleton] at hv3
        subst hv3
        have HP3 := hide ho3
        have HN3 : Hid ((P ++ [#[Value.int .i64 T]]).length = m + 1 ∧ P ++ [#[Value.int .i64 T]] = (stS (E.take (j + 1))).map kC) := ⟨by rw [List.length_append, HN.out.1]; rfl, by rw [HTK2.out, List.map_append, ← HN.out.2]; rfl⟩
        clear ho3 hg3 hat3 z1 z2 q0 q1 q2 q3 HN HP HB HPa HPd HBd g17 g19 h0
        go_wp2
        go_roundw
        case rel => exact ⟨j + 1, m + 1, a3, c3, _, rfl, by go_num, by omega, by omega, HN3.out, HP3.out, HB3.out⟩
        case measure => simp [intOf]; omega
      · have HTK2 : Hid (stS (E.take (j + 1)) = stS (E.take j)) := by show _ = _; rw [HTK.out]; unfold stN; rw [if_neg hft, List.append_nil]
        have hdc : decide (F < T) = false := decide_eq_false hft
        clear HTK
        have HBd : Hid (∀ n, Below w1.heap.size w1 (wr.drewN n)) := fun n => below_drewN HB.out n
        have HPd : Hid (∀ n, OR 3 1 (wr.drewN n) w1.heap.size (.slice pa m pc) P) := fun n => HP.out.move fun _ _ => rfl
        go_wp2
        go_quiet (fail)
        go_wp2
        go_roundw
        case rel => exact ⟨j + 1, m, pa, pc, P, rfl, by go_num, by omega, by omega, by show _ ∧ _; rw [HTK2.out]; exact HN.out, HPd.out _, HBd.out _⟩
        case measure => simp [intOf]; omega
    · have hlt' : ¬ (j : Int) < (R.length : Int) := by omega
      obtain rfl : j = R.length := by omega
      have ht : E.take R.length = E := List.take_of_length_le (by rw [HEL.out]; exact Nat.le_refl _)
      have hp := HP.out
      rw [HN.out.2, ht] at hp
      have HLm : Hid ((stS E).length = m) := by have h1 := HN.out.1; rw [HN.out.2, ht, List.length_map] at h1; exact h1
      have HLI := hide (or_oi hp)
      have hO := H4.rorder_any _ (stS E) wr HLI.out.sb (by rw [HLm.out]; omega)
      rw [HLm.out] at hO
      have HO := hide hO
      have HSM : Hid (∀ s, s ∈ ords (stS E) ↔ s ∈ stS E) := ords_mem (stS E)
      have HTKS : Hid (∀ k, k < m → (ords (stS E)).take (k + 1) = (ords (stS E)).take k ++ [(stS E).getD ((H4.orderOf (stS E)).getD k 0).toNat 0] ∧ ∀ t ∈ (ords (stS E)).take k, t ≤ (stS E).getD ((H4.orderOf (stS E)).getD k 0).toNat 0) := fun k hk => ords_take (by rw [HLm.out]; exact hk)
      have HOM : Hid (∀ x ∈ H4.orderOf (stS E), 0 ≤ x ∧ x < (m : Int)) := fun x hx => by have := H4.order_mem hx; rw [HLm.out] at this; exact this
      have HOL : Hid ((H4.orderOf (stS E)).length = m) := by show _ = _; rw [H4.orderOf_len]; exact HLm.out
      have HORL : Hid ((ords (stS E)).length = m) := by show _ = _; rw [ords_len]; exact HLm.out
      obtain ⟨L, hL⟩ : ∃ L, L = stS E := ⟨_, rfl⟩
      have HLE := hide hL
      rw [← hL] at HLI HO HTKS HOM HOL HORL HLm
      clear hp ht HN HP hO hL
      go_wp2_with fail
      refine HO.out.mono ?_
      rintro e w3 ⟨ao, co, rfl, o3, b3⟩
      have HB3 := hide (HB.out.trans (b3.mono HB.out.size))
      have HI3 := hide o3.sb
      have HL3 := hide (HLI.out.sb.below b3)
      obtain ⟨hco1, hco2⟩ : m ≤ co ∧ co ≤ 9223372036854775807 := by
        obtain ⟨a9, c9, h9, h8, h7, _⟩ := o3.sb
        simp only [Value.slice.injEq] at h9
        obtain ⟨-, -, rfl⟩ := h9
        rw [HOL.out] at h8
        unfold maxLen at h7
        exact ⟨h8, h7⟩
      obtain ⟨hpc1, hpc2⟩ : m ≤ pc ∧ pc ≤ 9223372036854775807 := by
        obtain ⟨a9, c9, h9, h8, h7, _⟩ := HLI.out.sb
        simp only [Value.slice.injEq] at h9
        obtain ⟨-, -, rfl⟩ := h9
        rw [HLm.out] at h8
        unfold maxLen at h7
        exact ⟨h8, h7⟩
      clear o3 b3 HO HB HLI q0 q1 q2 q3
      go_wp2
      go_loopw [6, 7, 8, 9, 10, 11, 12] (fun sv iv _ _ _ _ _ wr => ∃ (k n : Nat) (a : Option Addr) (c : Nat) (G : List (Int × Int)) (S : List (Array Value)), sv = .slice a n c ∧ iv = .int .i64 (k : Int) ∧ k ≤ m ∧ n ≤ k ∧ Hid (G.length = n ∧ S = G.map spC ∧ Sts E d ((ords L).take k) G) ∧ Hid (OR 39 2 wr w3.heap.size (.slice a n c) S) ∧ Hid (Below w3.heap.size w3 wr)) (fun _ iv _ _ _ _ _ _ => m - (intOf iv).toNat)
      case atStart => exact ⟨0, 0, none, 0, [], [], rfl, rfl, Nat.zero_le _, Nat.zero_le _, ⟨rfl, rfl, ⟨fun g hg => (by cases hg), fun s hs => (by simp at hs), List.Pairwise.nil⟩⟩, OR.nil _ _ _ _, Below.refl _ _⟩
      case round =>
        obtain ⟨k, n, a, c, G, S, rfl, rfl, hk, hnk, HG, HO, HB⟩ := hrel
        have HSL : Hid (S.length = n) := by show _ = _; rw [HG.out.2.1, List.length_map]; exact HG.out.1
        by_cases hlt : k < m
        · have hlt' : (k : Int) < (m : Int) := by omega
          have HB13 := hide (HB3.out.trans (HB.out.mono HB3.out.size))
          have HBw := hide (HB1.out.trans (HB13.out.mono HB1.out.size))
          obtain ⟨q0, q1, q2, q3⟩ := HD.out wr HB13.out
          obtain ⟨b, o, hab, d1⟩ := siNth (HI3.out.below HB.out) (k := k) (by rw [HOL.out]; exact hlt)
          have hr1 := HOM.out ((H4.orderOf L).getD k 0) (by simp [List.getD, HOL.out, hlt])
          have HT := hide (HTKS.out k hlt)
          obtain ⟨x, hx⟩ : ∃ x : Nat, (H4.orderOf L).getD k 0 = x := Int.eq_ofNat_of_zero_le hr1.1
          rw [hx] at d1 hr1 HT
          have hx1 : (x : Int) < (m : Int) := hr1.2
          obtain ⟨b2, o2, hab2, d2⟩ := siNth (HL3.out.below HB.out) (k := x) (by rw [HLm.out]; omega)
          simp only [Int.toNat_natCast] at HT
          obtain ⟨st, hst⟩ : ∃ st, st = L.getD x 0 := ⟨_, rfl⟩
          rw [← hst] at d2 HT
          have HF := hide (HFR.out st wr HBw.out)
          subst hab hab2
          clear hx hst hr1
          go_wp2_with fail
          refine HF.out.mono ?_
          rintro e w4 ⟨⟨bb, rfl, hbb⟩, hb4⟩
          have HB4 := hide (HB.out.trans (hb4.mono HB.out.size))
          have HO4 := hide (HO.out.below hb4 (Nat.le_refl _))
          have HBB := hide hbb
          have HB14 := hide (HB3.out.trans (HB4.out.mono HB3.out.size))
          have HBw4 := hide (HB1.out.trans (HB14.out.mono HB1.out.size))
          clear hb4 hbb HF q0 q1 q2 q3 d1 d2 HO HB HB13 HBw
          obtain ⟨q0, q1, q2, q3⟩ := HD.out w4 HB14.out
          cases bb with
          | false =>
            have HNF : Hid (¬ Fre E d st) := fun q => by have := HBB.out.2 q; cases this
            go_wp2
            go_roundw
            case rel => exact ⟨k + 1, n, a, c, G, S, rfl, by go_num, by omega, by omega, ⟨HG.out.1, HG.out.2.1, by rw [HT.out.1]; exact HG.out.2.2.skip HNF.out⟩, HO4.out, HB4.out⟩
            case measure => simp [intOf]; omega
          | true =>
            have HFS : Hid (Fre E d st) := HBB.out.1 rfl
            clear HBB
            have hcase : (n = 0 ∧ ∀ g ∈ G, g.1 ≠ st) ∨ (∃ (g : Nat) (G0 : List (Int × Int)) (fg tg : Int), n ≠ 0 ∧ a = some ⟨g, 0, none⟩ ∧ G = G0 ++ [(fg, tg)] ∧ n = G0.length + 1 ∧ n ≤ c ∧ w4.cell? ⟨g, G0.length * 2, none⟩ = some (.int .i64 fg)) := by
              by_cases hn0 : n = 0
              · left
                refine ⟨hn0, fun g hg => ?_⟩
                have : G = [] := List.eq_nil_of_length_eq_zero (by rw [HG.out.1]; exact hn0)
                rw [this] at hg
                cases hg
              · right
                have hGne : G ≠ [] := fun e => hn0 (by rw [← HG.out.1, e]; rfl)
                obtain ⟨G0, gg, hG⟩ : ∃ G0 gg, G = G0 ++ [gg] := ⟨G.dropLast, G.getLast hGne, (List.dropLast_concat_getLast hGne).symm⟩
                obtain ⟨fg, tg⟩ := gg
                have hGl : n = G0.length + 1 := by have := HG.out.1; rw [hG, List.length_append] at this; simpa using this.symm
                obtain ⟨g, hg⟩ : ∃ g, a = some ⟨g, 0, none⟩ := by
                  rcases HO4.out.2.2 with ⟨he, _⟩ | ⟨g, cap, cur, he, _⟩
                  · simp only [Value.slice.injEq] at he; omega
                  · simp only [Value.slice.injEq] at he; exact ⟨g, he.1⟩
                subst hg
                have hnc : n ≤ c := by
                  obtain ⟨a9, c9, h9, h8, h7⟩ := HO4.out.shape
                  rw [HSL.out] at h8
                  simp only [Value.slice.injEq] at h9
                  omega
                refine ⟨g, G0, fg, tg, hn0, rfl, hG, hGl, hnc, ?_⟩
                obtain ⟨b9, o9, h9, _, hr9⟩ := srLt HO4.out.sr (i := G0.length) (by rw [HSL.out]; omega)
                simp only [Option.some.injEq, Addr.mk.injEq] at h9
                obtain ⟨rfl, rfl, -⟩ := h9
                have e8 : S.getD G0.length #[] = #[.int .i64 fg, .int .i64 tg] := by
                  rw [HG.out.2.1, hG, List.map_append]
                  simp [List.getD, spC]
                rw [e8] at hr9
                have := range_cell (A := #[.int .i64 fg, .int .i64 tg]) hr9 (i := 0) (u := .int .i64 fg) rfl
                rwa [Nat.zero_add, Nat.add_zero] at this
            rcases hcase with ⟨hn0, hne⟩ | ⟨g, G0, fg, tg, hn0, rfl, hG, hGl, hnc, gc⟩
            · subst hn0
              have HNE := hide hne
              clear hne
              have HE0 : Hid ((E.take 0).foldl (enN st) d = d) := rfl
              go_wp2
              go_loopw [10, 11, 12] (fun en jv _ wr => ∃ (j : Nat) (N : Int), en = .int .i64 N ∧ jv = .int .i64 (j : Int) ∧ j ≤ R.length ∧ Hid ((E.take j).foldl (enN st) d = N) ∧ Hid (Below w4.heap.size w4 wr)) (fun _ jv _ _ => R.length - (intOf jv).toNat)
              case atStart => exact ⟨0, d, rfl, rfl, Nat.zero_le _, HE0.out, Below.refl _ _⟩
              case round =>
                obtain ⟨j, N, rfl, rfl, hj, HEN, HB⟩ := hrel
                have HB1r := hide (HB14.out.trans (HB.out.mono HB14.out.size))
                clear q0 q1 q2 q3
                obtain ⟨q0, q1, q2, q3⟩ := HD.out wr HB1r.out
                by_cases hjl : j < R.length
                · have hjl' : (j : Int) < (R.length : Int) := by omega
                  have HEN2 := hide (enS_take (E := E) (s := st) (d := d) (k := j) (by rw [HEL.out]; exact hjl))
                  rw [HEN.out, HEG.out j hjl] at HEN2
                  obtain ⟨b0, o0, hla, hbl, hrg⟩ := srLt (HL.out.low (HB1.out.trans (HB1r.out.mono HB1.out.size))) (i := j) (by rw [List.length_map]; exact hjl)
                  rw [csN_get hjl] at hrg
                  obtain ⟨l, hl⟩ : ∃ l, l = R.getD j Ent.zero := ⟨_, rfl⟩
                  rw [← hl] at hrg HEN2
                  obtain ⟨A, hA⟩ : ∃ A, A = l.cs := ⟨_, rfl⟩
                  obtain ⟨F, hF⟩ : ∃ F, F = l.frm := ⟨_, rfl⟩
                  obtain ⟨T, hT⟩ : ∃ T, T = l.til := ⟨_, rfl⟩
                  have HA17 : Hid (A[17]? = some (.int .i64 F)) := by show _ = _; rw [hA, hF]; rfl
                  have HA19 : Hid (A[19]? = some (.int .i64 T)) := by show _ = _; rw [hA, hT]; rfl
                  have HSA : Hid (A.size = 20) := by rw [hA]; exact rsN _
                  have HOA : Hid (A.all (·.oneCell') = true) := by rw [hA]; exact roN _
                  rw [← hA] at hrg
                  rw [← hF, ← hT] at HEN2
                  have HRG := hide hrg
                  have HZ : Hid ((wr.alloc (.cells #[.int .i64 0, .int .i64 0, .int .i64 0, .int .i64 0, .int .i64 0, .int .u32 0, .int .i64 0, .int .i64 0, .string ⟨#[]⟩, .string ⟨#[]⟩, .int .i64 0, .int .i64 0, .int .i64 0, .int .i64 0, .int .i64 0, .string ⟨#[]⟩, .string ⟨#[]⟩, .int .i64 0, .int .i64 0, .int .i64 0] 32)).heap[wr.heap.size]? = some (.cells #[.int .i64 0, .int .i64 0, .int .i64 0, .int .i64 0, .int .i64 0, .int .u32 0, .int .i64 0, .int .i64 0, .string ⟨#[]⟩, .string ⟨#[]⟩, .int .i64 0, .int .i64 0, .int .i64 0, .int .i64 0, .int .i64 0, .string ⟨#[]⟩, .string ⟨#[]⟩, .int .i64 0, .int .i64 0, .int .i64 0] 32 (0, 0))) := heap_alloc_new _ _
                  obtain ⟨ws, hws⟩ : ∃ y, wr.alloc (.cells A 32) = y := ⟨_, rfl⟩
                  have HBs : Hid (Below w4.heap.size w4 ws) := by rw [← hws]; exact HB.out.alloc HB.out.size _
                  have n1 : ws.heap[wr.heap.size]? = some (.cells A 32 (0, 0)) := by rw [← hws]; exact heap_alloc_new _ _
                  have HW3 : Hid ((wr.alloc (.cells #[.int .i64 0, .int .i64 0, .int .i64 0, .int .i64 0, .int .i64 0, .int .u32 0, .int .i64 0, .int .i64 0, .string ⟨#[]⟩, .string ⟨#[]⟩, .int .i64 0, .int .i64 0, .int .i64 0, .int .i64 0, .int .i64 0, .string ⟨#[]⟩, .string ⟨#[]⟩, .int .i64 0, .int .i64 0, .int .i64 0] 32)).setRow wr.heap.size A = ws) := by show _ = _; rw [World.setRow_alloc_new]; exact hws
                  have g17 : ws.cell? ⟨wr.heap.size, 17, none⟩ = some (.int .i64 F) := by simp only [World.cell?, n1]; exact HA17.out
                  have g19 : ws.cell? ⟨wr.heap.size, 19, none⟩ = some (.int .i64 T) := by simp only [World.cell?, n1]; exact HA19.out
                  subst hla
                  clear hl hrg hA hF hT hbl hws n1
                  have hcs : (st < F ∧ F < T ∧ F < N ∧ enN st N (F, T) = F) ∨ (st < F ∧ F < T ∧ ¬ F < N ∧ enN st N (F, T) = N) ∨ (st < F ∧ ¬ F < T ∧ enN st N (F, T) = N) ∨ (¬ st < F ∧ enN st N (F, T) = N) := by
                    unfold enN
                    by_cases k1 : st < F
                    · by_cases k2 : F < T
                      · by_cases k3 : F < N
                        · exact .inl ⟨k1, k2, k3, if_pos ⟨k1, k2, k3⟩⟩
                        · exact .inr (.inl ⟨k1, k2, k3, if_neg (fun q => k3 q.2.2)⟩)
                      · exact .inr (.inr (.inl ⟨k1, k2, if_neg (fun q => k2 q.2.1)⟩))
                    · exact .inr (.inr (.inr ⟨k1, if_neg (fun q => k1 q.1)⟩))
                  rcases hcs with ⟨k1, k2, k3, k4⟩ | ⟨k1, k2, k3, k4⟩ | ⟨k1, k2, k4⟩ | ⟨k1, k4⟩
                  all_goals (
                    have HK4 := hide k4
                    clear k4
                    go_wp2_with (first
                      | ((with_reducible refine wpList_lmN b0 (o0 + j * 20) A HSA.out ?hx HRG.out ?_); (case hx => rfl))
                      | ((with_reducible refine wpList_stN wr.heap.size A #[.int .i64 0, .int .i64 0, .int .i64 0, .int .i64 0, .int .i64 0, .int .u32 0, .int .i64 0, .int .i64 0, .string ⟨#[]⟩, .string ⟨#[]⟩, .int .i64 0, .int .i64 0, .int .i64 0, .int .i64 0, .int .i64 0, .string ⟨#[]⟩, .string ⟨#[]⟩, .int .i64 0, .int .i64 0, .int .i64 0] HSA.out rfl HOA.out ?hx ?hy HZ.out ?_); (case hx => rfl); (case hy => rfl); rw [HW3.out]))
                    go_roundw
                    case rel => exact ⟨j + 1, _, rfl, by go_num, by omega, by show _ = _; rw [HEN2.out, HK4.out], HBs.out⟩
                    case measure => simp [intOf]; omega)
                · have hjl' : ¬ (j : Int) < (R.length : Int) := by omega
                  obtain rfl : j = R.length := by omega
                  have HEF : Hid (enS E d st = N) := by have := HEN.out; rwa [List.take_of_length_le (by rw [HEL.out]; exact Nat.le_refl _)] at this
                  have HOz := hide (HO4.out.below HB.out (Nat.le_refl _))
                  have HOa := hide (HOz.out.alloc (.cells #[.int .i64 st, .int .i64 N] 39))
                  have HB3r := hide (HB4.out.trans (HB.out.mono HB4.out.size))
                  go_wp2_with (at_builtin; refine wpRow rfl _ _ 33 39 2 16 _ rfl Try.underlying33 infoS rfl (by omega) w3.heap.size (.slice a 0 c) S #[.int .i64 st, .int .i64 N] wr.heap.size 1 (0, 0) rfl HOa.out rfl (heap_alloc_new _ _) rfl (by simp [Value.oneCell']) (by rw [HSL.out]; omega) (by rw [HSL.out]; omega) (by rw [size_alloc']; have := HB3r.out.size; omega) ?_)
                  intro v5 w5 ho5 hg5 hat5
                  have HB5 : Hid (Below w3.heap.size w3 w5) := (HB3r.out.alloc HB3r.out.size _).grown hg5 (by rw [size_alloc']; have := HB3r.out.size; omega) (fun k hk => (HOz.out.lt k hk).1)
                  obtain ⟨a5, c5, hv5, z1, z2⟩ := ho5.shape
                  rw [List.length_append, HSL.out, List.length_singleton] at hv5
                  subst hv5
                  have HO5 := hide ho5
                  have HG5 : Hid ((G ++ [(st, N)]).length = 0 + 1 ∧ S ++ [#[Value.int .i64 st, Value.int .i64 N]] = (G ++ [(st, N)]).map spC ∧ Sts E d ((ords L).take (k + 1)) (G ++ [(st, N)])) := ⟨by rw [List.length_append, HG.out.1]; rfl, by rw [List.map_append, ← HG.out.2.1]; rfl, by rw [HT.out.1, ← HEF.out]; exact HG.out.2.2.add HFS.out HT.out.2 HNE.out⟩
                  clear ho5 hg5 hat5 z1 z2
                  go_wp2
                  go_roundw
                  case rel => exact ⟨k + 1, 0 + 1, a5, c5, _, _, rfl, by go_num, by omega, by omega, HG5.out, HO5.out, HB5.out⟩
                  case measure => simp [intOf]; omega
            · have hnb : (0 : Int) < (n : Int) := by omega
              have hn1 : ((n : Int) - 1) = (G0.length : Int) := by omega
              have hn2 : G0.length < n := by omega
              obtain ⟨M, hM⟩ : ∃ M, M = G0.length := ⟨_, rfl⟩
              rw [← hM] at hn1 hn2 gc
              have HMM := hide hM
              have HGG := hide hG
              clear hM hG hGl
              by_cases hfe : fg = st
              · subst hfe
                have HS2 : Hid (Sts E d ((ords L).take (k + 1)) G) := by show Sts _ _ _ _; rw [HT.out.1]; have h1 := HG.out.2.2; rw [HGG.out] at h1 ⊢; exact h1.dup
                go_wp2
                go_roundw
                case rel => exact ⟨k + 1, n, _, c, G, S, rfl, by go_num, by omega, by omega, ⟨HG.out.1, HG.out.2.1, HS2.out⟩, HO4.out, HB4.out⟩
                case measure => simp [intOf]; omega
              · have hfb : (fg == st) = false := by simpa using hfe
                have HNE : Hid (∀ g ∈ G, g.1 ≠ st) := by have h1 := HG.out.2.2; rw [HGG.out] at h1 ⊢; exact h1.far HT.out.2 hfe
                clear hfe
                have HE0 : Hid ((E.take 0).foldl (enN st) d = d) := rfl
                go_wp2
                go_loopw [10, 11, 12] (fun en jv _ wr => ∃ (j : Nat) (N : Int), en = .int .i64 N ∧ jv = .int .i64 (j : Int) ∧ j ≤ R.length ∧ Hid ((E.take j).foldl (enN st) d = N) ∧ Hid (Below w4.heap.size w4 wr)) (fun _ jv _ _ => R.length - (intOf jv).toNat)
                case atStart => exact ⟨0, d, rfl, rfl, Nat.zero_le _, HE0.out, Below.refl _ _⟩
                case round =>
                  obtain ⟨j, N, rfl, rfl, hj, HEN, HB⟩ := hrel
                  have HB1r := hide (HB14.out.trans (HB.out.mono HB14.out.size))
                  clear q0 q1 q2 q3
                  obtain ⟨q0, q1, q2, q3⟩ := HD.out wr HB1r.out
                  by_cases hjl : j < R.length
                  · have hjl' : (j : Int) < (R.length : Int) := by omega
                    have HEN2 := hide (enS_take (E := E) (s := st) (d := d) (k := j) (by rw [HEL.out]; exact hjl))
                    rw [HEN.out, HEG.out j hjl] at HEN2
                    obtain ⟨b0, o0, hla, hbl, hrg⟩ := srLt (HL.out.low (HB1.out.trans (HB1r.out.mono HB1.out.size))) (i := j) (by rw [List.length_map]; exact hjl)
                    rw [csN_get hjl] at hrg
                    obtain ⟨l, hl⟩ : ∃ l, l = R.getD j Ent.zero := ⟨_, rfl⟩
                    rw [← hl] at hrg HEN2
                    obtain ⟨A, hA⟩ : ∃ A, A = l.cs := ⟨_, rfl⟩
                    obtain ⟨F, hF⟩ : ∃ F, F = l.frm := ⟨_, rfl⟩
                    obtain ⟨T, hT⟩ : ∃ T, T = l.til := ⟨_, rfl⟩
                    have HA17 : Hid (A[17]? = some (.int .i64 F)) := by show _ = _; rw [hA, hF]; rfl
                    have HA19 : Hid (A[19]? = some (.int .i64 T)) := by show _ = _; rw [hA, hT]; rfl
                    have HSA : Hid (A.size = 20) := by rw [hA]; exact rsN _
                    have HOA : Hid (A.all (·.oneCell') = true) := by rw [hA]; exact roN _
                    rw [← hA] at hrg
                    rw [← hF, ← hT] at HEN2
                    have HRG := hide hrg
                    have HZ : Hid ((wr.alloc (.cells #[.int .i64 0, .int .i64 0, .int .i64 0, .int .i64 0, .int .i64 0, .int .u32 0, .int .i64 0, .int .i64 0, .string ⟨#[]⟩, .string ⟨#[]⟩, .int .i64 0, .int .i64 0, .int .i64 0, .int .i64 0, .int .i64 0, .string ⟨#[]⟩, .string ⟨#[]⟩, .int .i64 0, .int .i64 0, .int .i64 0] 32)).heap[wr.heap.size]? = some (.cells #[.int .i64 0, .int .i64 0, .int .i64 0, .int .i64 0, .int .i64 0, .int .u32 0, .int .i64 0, .int .i64 0, .string ⟨#[]⟩, .string ⟨#[]⟩, .int .i64 0, .int .i64 0, .int .i64 0, .int .i64 0, .int .i64 0, .string ⟨#[]⟩, .string ⟨#[]⟩, .int .i64 0, .int .i64 0, .int .i64 0] 32 (0, 0))) := heap_alloc_new _ _
                    obtain ⟨ws, hws⟩ : ∃ y, wr.alloc (.cells A 32) = y := ⟨_, rfl⟩
                    have HBs : Hid (Below w4.heap.size w4 ws) := by rw [← hws]; exact HB.out.alloc HB.out.size _
                    have n1 : ws.heap[wr.heap.size]? = some (.cells A 32 (0, 0)) := by rw [← hws]; exact heap_alloc_new _ _
                    have HW3 : Hid ((wr.alloc (.cells #[.int .i64 0, .int .i64 0, .int .i64 0, .int .i64 0, .int .i64 0, .int .u32 0, .int .i64 0, .int .i64 0, .string ⟨#[]⟩, .string ⟨#[]⟩, .int .i64 0, .int .i64 0, .int .i64 0, .int .i64 0, .int .i64 0, .string ⟨#[]⟩, .string ⟨#[]⟩, .int .i64 0, .int .i64 0, .int .i64 0] 32)).setRow wr.heap.size A = ws) := by show _ = _; rw [World.setRow_alloc_new]; exact hws
                    have g17 : ws.cell? ⟨wr.heap.size, 17, none⟩ = some (.int .i64 F) := by simp only [World.cell?, n1]; exact HA17.out
                    have g19 : ws.cell? ⟨wr.heap.size, 19, none⟩ = some (.int .i64 T) := by simp only [World.cell?, n1]; exact HA19.out
                    subst hla
                    clear hl hrg hA hF hT hbl hws n1
                    have hcs : (st < F ∧ F < T ∧ F < N ∧ enN st N (F, T) = F) ∨ (st < F ∧ F < T ∧ ¬ F < N ∧ enN st N (F, T) = N) ∨ (st < F ∧ ¬ F < T ∧ enN st N (F, T) = N) ∨ (¬ st < F ∧ enN st N (F, T) = N) := by
                      unfold enN
                      by_cases k1 : st < F
                      · by_cases k2 : F < T
                        · by_cases k3 : F < N
                          · exact .inl ⟨k1, k2, k3, if_pos ⟨k1, k2, k3⟩⟩
                          · exact .inr (.inl ⟨k1, k2, k3, if_neg (fun q => k3 q.2.2)⟩)
                        · exact .inr (.inr (.inl ⟨k1, k2, if_neg (fun q => k2 q.2.1)⟩))
                      · exact .inr (.inr (.inr ⟨k1, if_neg (fun q => k1 q.1)⟩))
                    rcases hcs with ⟨k1, k2, k3, k4⟩ | ⟨k1, k2, k3, k4⟩ | ⟨k1, k2, k4⟩ | ⟨k1, k4⟩
                    all_goals (
                      have HK4 := hide k4
                      clear k4
                      go_wp2_with (first
                        | ((with_reducible refine wpList_lmN b0 (o0 + j * 20) A HSA.out ?hx HRG.out ?_); (case hx => rfl))
                        | ((with_reducible refine wpList_stN wr.heap.size A #[.int .i64 0, .int .i64 0, .int .i64 0, .int .i64 0, .int .i64 0, .int .u32 0, .int .i64 0, .int .i64 0, .string ⟨#[]⟩, .string ⟨#[]⟩, .int .i64 0, .int .i64 0, .int .i64 0, .int .i64 0, .int .i64 0, .string ⟨#[]⟩, .string ⟨#[]⟩, .int .i64 0, .int .i64 0, .int .i64 0] HSA.out rfl HOA.out ?hx ?hy HZ.out ?_); (case hx => rfl); (case hy => rfl); rw [HW3.out]))
                      go_roundw
                      case rel => exact ⟨j + 1, _, rfl, by go_num, by omega, by show _ = _; rw [HEN2.out, HK4.out], HBs.out⟩
                      case measure => simp [intOf]; omega)
                  · have hjl' : ¬ (j : Int) < (R.length : Int) := by omega
                    obtain rfl : j = R.length := by omega
                    have HEF : Hid (enS E d st = N) := by have := HEN.out; rwa [List.take_of_length_le (by rw [HEL.out]; exact Nat.le_refl _)] at this
                    have HOz := hide (HO4.out.below HB.out (Nat.le_refl _))
                    have HOa := hide (HOz.out.alloc (.cells #[.int .i64 st, .int .i64 N] 39))
                    have HB3r := hide (HB4.out.trans (HB.out.mono HB4.out.size))
                    go_wp2_with (at_builtin; refine wpRow rfl _ _ 33 39 2 16 _ rfl Try.underlying33 infoS rfl (by omega) w3.heap.size (.slice (some ⟨g, 0, none⟩) n c) S #[.int .i64 st, .int .i64 N] wr.heap.size 1 (0, 0) rfl HOa.out rfl (heap_alloc_new _ _) rfl (by simp [Value.oneCell']) (by rw [HSL.out]; omega) (by rw [HSL.out]; omega) (by rw [size_alloc']; have := HB3r.out.size; omega) ?_)
                    intro v5 w5 ho5 hg5 hat5
                    have HB5 : Hid (Below w3.heap.size w3 w5) := (HB3r.out.alloc HB3r.out.size _).grown hg5 (by rw [size_alloc']; have := HB3r.out.size; omega) (fun k hk => (HOz.out.lt k hk).1)
                    obtain ⟨a5, c5, hv5, z1, z2⟩ := ho5.shape
                    rw [List.length_append, HSL.out, List.length_singleton] at hv5
                    subst hv5
                    have HO5 := hide ho5
                    have HG5 : Hid ((G ++ [(st, N)]).length = n + 1 ∧ S ++ [#[Value.int .i64 st, Value.int .i64 N]] = (G ++ [(st, N)]).map spC ∧ Sts E d ((ords L).take (k + 1)) (G ++ [(st, N)])) := ⟨by rw [List.length_append, HG.out.1]; rfl, by rw [List.map_append, ← HG.out.2.1]; rfl, by rw [HT.out.1, ← HEF.out]; exact HG.out.2.2.add HFS.out HT.out.2 HNE.out⟩
                    clear ho5 hg5 hat5 z1 z2
                    go_wp2
                    go_roundw
                    case rel => exact ⟨k + 1, n + 1, a5, c5, _, _, rfl, by go_num, by omega, by omega, HG5.out, HO5.out, HB5.out⟩
                    case measure => simp [intOf]; omega
        · have hlt' : ¬ (k : Int) < (m : Int) := by omega
          obtain rfl : k = m := by omega
          have HEQ : Hid (G = GG) := by
            have h1 := HG.out.2.2
            rw [List.take_of_length_le (by rw [HORL.out]; exact Nat.le_refl _)] at h1
            exact (h1.end (fun s => by rw [HLE.out]; exact HSM.out s)).uniq HGP.out
          have HF : Hid (OR 39 2 wr w.heap.size (.slice a GG.length c) (GG.map spC)) := by
            have h1 := HO.out.base (Nat.le_trans HB1.out.size HB3.out.size)
            rw [HG.out.2.1, ← HG.out.1, HEQ.out] at h1
            exact h1
          have HGL : Hid (GG.length = n) := by show _ = _; rw [← HEQ.out]; exact HG.out.1
          have HBf := hide (HB1.out.trans ((HB3.out.trans (HB.out.mono HB3.out.size)).mono HB1.out.size))
          go_wp2
          go_ret
          exact ⟨a, c, by rw [HGL.out]; rfl, HF.out, HBf.out⟩
end Go.Proofs.Ytmbgjkghcpkoiaa

