import Derived.Test.YtmbgjkghcpkoiaaGZfr
import Derived.BigQuiet
import Derived.Deep.DeepCutAuto
namespace Go.Proofs.Ytmbgjkghcpkoiaa
open Go.RowKit Go.Maps
set_option maxRecDepth 20000
set_option linter.unusedVariables false
set_option linter.unusedSimpArgs false

def Ins (E : List (Int × Int)) (p : Int) : Prop := ∃ e ∈ E, Cvr p e
def InA (E : List (Int × Int)) (p : Int) (e : Ending) : Prop := ∃ b : Bool, e = .returned (.bool b) ∧ (b = true ↔ Ins E p)

set_option maxHeartbeats 8000000 in
theorem inside_any (v : Value) (R : List Ent) (p : Int) (w : World) (h : SR 20 w v (R.map Ent.cs)) :
    Calls Try.prog 13 #[v, .int .i64 p] w fun e w' => InA (R.map eS) p e ∧ w' = w := by
  have HL := hide h
  obtain ⟨ca, ccap, rfl, c1, c2⟩ := h.open
  rw [List.length_map] at c1
  have elc : (R.map Ent.cs).length = R.length := List.length_map ..
  rw [elc] at HL ⊢
  clear h elc
  go_enter Try.func13, Try.ntmps13
  go_wp2
  go_loopw [5] (fun i wr => ∃ (j : Nat), i = .int .i64 (j : Int) ∧ j ≤ R.length ∧ Hid (∀ i, i < j → ¬ Cvr p ((R.map eS).getD i (0, 0))) ∧ wr = w) (fun i _ => R.length - (intOf i).toNat)
  case atStart => exact ⟨0, rfl, Nat.zero_le _, fun i hi => absurd hi (Nat.not_lt_zero _), rfl⟩
  case round =>
    obtain ⟨j, rfl, hj, HC, rfl⟩ := hrel
    by_cases hlt : j < R.length
    · have hlt' : (j : Int) < (R.length : Int) := by omega
      obtain ⟨b0, o0, hla, hbl, hrg⟩ := srLt HL.out (i := j) (by rw [List.length_map]; exact hlt)
      rw [csN_get hlt] at hrg
      have HEG := hide (eS_get hlt)
      obtain ⟨l, hl⟩ : ∃ l, l = R.getD j Ent.zero := ⟨_, rfl⟩
      rw [← hl] at hrg HEG
      have g17 := range_cell hrg (i := 17) (u := .int .i64 l.frm) rfl
      have g19 := range_cell hrg (i := 19) (u := .int .i64 l.til) rfl
      have HES : Hid (eS l = (l.frm, l.til)) := rfl
      obtain ⟨F, hF⟩ : ∃ F, F = l.frm := ⟨_, rfl⟩
      obtain ⟨T, hT⟩ : ∃ T, T = l.til := ⟨_, rfl⟩
      rw [← hF] at g17 HES
      rw [← hT] at g19 HES
      rw [HES.out] at HEG
      subst hla
      clear hl hrg hF hT hbl HES
      by_cases k1 : F ≤ p
      · by_cases k2 : p < T
        · have HN : Hid (Ins (R.map eS) p) := ⟨(F, T), by rw [← HEG.out]; exact memP (by rw [List.length_map]; exact hlt), k1, k2⟩
          go_wp2
          go_ret
          exact ⟨⟨true, rfl, ⟨fun _ => HN.out, fun _ => rfl⟩⟩, rfl⟩
        · have HC2 : Hid (∀ i, i < j + 1 → ¬ Cvr p ((R.map eS).getD i (0, 0))) := fun i hi => by
            by_cases e : i = j
            · rw [e, HEG.out]; exact fun q => k2 q.2
            · exact HC.out i (by omega)
          go_wp2
          go_roundw
          case rel => exact ⟨j + 1, by go_num, by omega, HC2.out, by first | rfl | trivial⟩
          case measure => simp [intOf]; omega
      · have HC2 : Hid (∀ i, i < j + 1 → ¬ Cvr p ((R.map eS).getD i (0, 0))) := fun i hi => by
          by_cases e : i = j
          · rw [e, HEG.out]; exact fun q => k1 q.1
          · exact HC.out i (by omega)
        go_wp2
        go_roundw
        case rel => exact ⟨j + 1, by go_num, by omega, HC2.out, by first | rfl | trivial⟩
        case measure => simp [intOf]; omega
    · have hlt' : ¬ (j : Int) < (R.length : Int) := by omega
      have HF : Hid (¬ Ins (R.map eS) p) := fun ⟨e, he, q⟩ => none_all (fun i hi => HC.out i (by rw [List.length_map] at hi; omega)) e he q
      go_wp2
      go_ret
      exact ⟨⟨false, rfl, ⟨fun q => (by cases q), fun q => absurd q HF.out⟩⟩, rfl⟩

/-! What the statement asks of gaps. -/
theorem GapL.at {E : List (Int × Int)} {d : Int} {G : List (Int × Int)} (h : GapL E d G) {i : Nat} (hi : i < G.length) {a b : Int} (e : G.getD i (0, 0) = (a, b)) :
    0 ≤ a ∧ a < b ∧ b ≤ d ∧ (0 < a → Ins E (a - 1)) ∧ (b < d → Ins E b) ∧ ¬ Ins E a ∧ (∀ x ∈ E, ¬ (x.1 < x.2 ∧ x.1 < b ∧ a < x.2)) := by
  have hm : (a, b) ∈ G := by rw [← e]; exact memP hi
  obtain ⟨h1, h2, h3, h4⟩ := h.els _ hm
  simp only at h1 h2 h3 h4
  have fa := h2 a (Int.le_refl _) h1
  have fb := h2 (b - 1) (by omega) (by omega)
  have dec : ∀ p, 0 ≤ p → p < d → ¬ Fre E d p → Ins E p := fun p p0 p1 hp => by
    by_cases q : Ins E p
    · exact q
    · exact absurd ⟨p0, p1, fun e he hc => q ⟨e, he, hc⟩⟩ hp
  refine ⟨fa.1, h1, by have := fb.2.1; omega, fun q => dec _ (by omega) (by have := fa.2.1; omega) h3, fun q => dec _ (by have := fa.1; omega) q h4, fun ⟨x, hx, q⟩ => fa.2.2 x hx q, fun x hx q => ?_⟩
  by_cases c : a ≤ x.1
  · exact (h2 x.1 c q.2.1).2.2 x hx ⟨Int.le_refl _, q.1⟩
  · exact fa.2.2 x hx ⟨by omega, q.2.2⟩
theorem GapL.prev {E : List (Int × Int)} {d : Int} {G : List (Int × Int)} (h : GapL E d G) {i : Nat} (hi : i + 1 < G.length) : (G.getD i (0, 0)).2 < (G.getD (i + 1) (0, 0)).1 := by
  have := List.pairwise_iff_getElem.1 h.srt i (i + 1) (by omega) hi (by omega)
  simpa [List.getD, hi, show i < G.length by omega] using this
theorem gps_len (d : Int) (E : List (Int × Int)) : (gps d E).length ≤ E.length + 1 := by
  unfold gps
  have hl : (srtS (E.map Prod.fst) E).length = E.length := by rw [srtS_len, List.length_map]
  have h1 := gpW_len d (srtS (E.map Prod.fst) E) (srtS (E.map Prod.fst) E).length (Nat.le_refl _)
  rw [List.take_length] at h1
  unfold gpE
  split
  · rw [List.length_append]; simp; omega
  · omega

set_option maxHeartbeats 32000000 in
theorem cover_walk (v : Value) (R : List Ent) (d s : Int) (cm : ByteArray) (w : World) (h : SR 20 w v (R.map Ent.cs)) (ho : ∀ e ∈ R, Ok64 e.frm ∧ Ok64 e.til) (hd : Ok64 d) (hn : R.length ≤ 733007751829) :
    Calls Try.prog 5 #[.agg #[v, .int .i64 d, .int .i64 s, .string cm]] w fun e w' => e = .returned (.bool true) ∧ Below w.heap.size w w' := by
  have HL := hide h
  have HOK := hide ho
  obtain ⟨ca, ccap, rfl, c1, c2⟩ := h.open
  rw [List.length_map] at c1
  have elc : (R.map Ent.cs).length = R.length := List.length_map ..
  rw [elc] at HL ⊢
  clear h elc ho
  have hb1 : Below w.heap.size w (w.alloc (.cells #[.slice ca R.length ccap, .int .i64 d, .int .i64 s, .string cm] 24)) := (Below.refl _ _).alloc (Nat.le_refl _) _
  have hx1 : (w.alloc (.cells #[.slice ca R.length ccap, .int .i64 d, .int .i64 s, .string cm] 24)).heap[w.heap.size]? = some (.cells #[.slice ca R.length ccap, .int .i64 d, .int .i64 s, .string cm] 24) := heap_alloc_new _ _
  obtain ⟨w1, hw1⟩ : ∃ y, w.alloc (.cells #[.slice ca R.length ccap, .int .i64 d, .int .i64 s, .string cm] 24) = y := ⟨_, rfl⟩
  rw [hw1] at hb1 hx1
  have HX1 := hide hx1
  have HSZ1 : Hid (w.heap.size < w1.heap.size) := (Array.getElem?_eq_some_iff.1 hx1).1
  have HD : Hid (∀ W, Below w1.heap.size w1 W → W.cell? ⟨w.heap.size, 0, none⟩ = some (.slice ca R.length ccap) ∧ W.cell? ⟨w.heap.size, 1, none⟩ = some (.int .i64 d) ∧ W.cell? ⟨w.heap.size, 2, none⟩ = some (.int .i64 s) ∧ W.cell? ⟨w.heap.size, 3, none⟩ = some (.string cm)) := fun W hW => by
    have e := (hW.block _ HSZ1.out).trans HX1.out
    exact ⟨by simp [World.cell?, e], by simp [World.cell?, e], by simp [World.cell?, e], by simp [World.cell?, e]⟩
  have HB1 := hide hb1
  have HR1 := hide (HL.out.low hb1)
  clear hb1 hx1
  have HGA := hide (gaps_any (.slice ca R.length ccap) R d s cm w1 HR1.out HOK.out hd hn)
  have HEX := hide (fun W (hW : Below w1.heap.size w1 W) => extents_any (.slice ca R.length ccap) R d s cm W (HR1.out.low hW) hn)
  have HIN := hide (fun p W (hW : Below w1.heap.size w1 W) => inside_any (.slice ca R.length ccap) R p W (HR1.out.low hW))
  have HGP := hide (gps_ok (R.map eS) d)
  have HGN : Hid ((gps d (R.map eS)).length ≤ R.length + 1) := by have := gps_len d (R.map eS); rw [List.length_map] at this; exact this
  have HEG : Hid (∀ j, j < R.length → (R.map eS).getD j (0, 0) = ((R.getD j Ent.zero).frm, (R.getD j Ent.zero).til)) := fun j hj => eS_get hj
  have HEM : Hid (∀ j, j < R.length → ((R.getD j Ent.zero).frm, (R.getD j Ent.zero).til) ∈ R.map eS) := fun j hj => by rw [← HEG.out j hj]; exact memP (by rw [List.length_map]; exact hj)
  have HAS : Hid ((srtS (R.map Ent.frm) (R.map eS)).Pairwise (fun a b => a.1 ≤ b.1)) := by have := srt_asc (R.map eS); rw [fst_eS] at this; exact this
  have HSL : Hid ((srtS (R.map Ent.frm) (R.map eS)).length = R.length) := by show _ = _; rw [srtS_len, List.length_map]
  obtain ⟨X, hX⟩ : ∃ X, X = srtS (R.map Ent.frm) (R.map eS) := ⟨_, rfl⟩
  rw [← hX] at HEX HAS HSL
  obtain ⟨E, hE⟩ : ∃ E, E = R.map eS := ⟨_, rfl⟩
  rw [← hE] at HGP HGN HGA HEG HEM HIN
  obtain ⟨G, hG⟩ : ∃ G, G = gps d E := ⟨_, rfl⟩
  rw [← hG] at HGP HGN HGA
  have hGn : G.length ≤ 733007751830 := by have := HGN.out; omega
  clear hG hE hX HGN
  obtain ⟨q0, q1, q2, q3⟩ := HD.out w1 (Below.refl _ _)
  go_enter Try.func5, Try.ntmps5
  go_wp2_with fail
  refine HGA.out.mono ?_
  rintro e w2 ⟨ga, gc, rfl, hog, hb2⟩
  have HGS := hide hog.sr
  obtain ⟨gc1, gc2⟩ : G.length ≤ gc ∧ gc ≤ 9223372036854775807 := by
    obtain ⟨a9, c9, h9, h8, h7⟩ := hog.shape
    rw [List.length_map] at h8
    simp only [Value.slice.injEq] at h9
    omega
  have HB2 := hide hb2
  clear hog hb2 HGA q0 q1 q2 q3
  go_wp2
  go_loopw [4, 5, 6, 7] (fun i _ _ _ wr => ∃ (j : Nat), i = .int .i64 (j : Int) ∧ j ≤ G.length ∧ Hid (Below w2.heap.size w2 wr)) (fun i _ _ _ _ => G.length - (intOf i).toNat)
  case atStart => exact ⟨0, rfl, Nat.zero_le _, Below.refl _ _⟩
  case round =>
    obtain ⟨j, rfl, hj, HB⟩ := hrel
    by_cases hlt : j < G.length
    · have hlt' : (j : Int) < (G.length : Int) := by omega
      obtain ⟨b0, o0, hla, hbl, hrg⟩ := srLt (HGS.out.low HB.out) (i := j) (by rw [List.length_map]; exact hlt)
      rw [spC_get hlt] at hrg
      obtain ⟨e, he⟩ : ∃ e, e = G.getD j (0, 0) := ⟨_, rfl⟩
      rw [← he] at hrg
      obtain ⟨a, b⟩ := e
      have hat := HGP.out.at hlt he.symm
      have g0 := range_cell hrg (i := 0) (u := .int .i64 a) rfl
      have g1 := range_cell hrg (i := 1) (u := .int .i64 b) rfl
      rw [Nat.add_zero] at g0
      subst hla
      have hprev : j = 0 ∨ ∃ (M : Nat) (pv : Int), 0 < j ∧ ((j : Int) - 1) = (M : Int) ∧ M < G.length ∧ pv < a ∧ wr.cell? ⟨b0, o0 + M * 2 + 1, none⟩ = some (.int .i64 pv) := by
        by_cases h0 : j = 0
        · exact .inl h0
        · right
          obtain ⟨M, rfl⟩ : ∃ M, j = M + 1 := ⟨j - 1, by omega⟩
          have hp := HGP.out.prev hlt
          rw [← he] at hp
          obtain ⟨b9, o9, h9, _, hr9⟩ := srLt (HGS.out.low HB.out) (i := M) (by rw [List.length_map]; omega)
          simp only [Option.some.injEq, Addr.mk.injEq] at h9
          obtain ⟨rfl, rfl, -⟩ := h9
          rw [spC_get (by omega)] at hr9
          exact ⟨M, (G.getD M (0, 0)).2, by omega, by omega, by omega, hp, range_cell hr9 (i := 1) rfl⟩
      obtain ⟨a0, a1, a2, a3, a4, a5, a6⟩ := hat
      have HA3 := hide a3
      have HA4 := hide a4
      have HA5 := hide a5
      have HA6 := hide a6
      have HBa : Hid (Below w2.heap.size w2 (wr.alloc (.cells #[.int .i64 a, .int .i64 b] 39))) := HB.out.alloc HB.out.size _
      have HBr : Hid (Below wr.heap.size wr (wr.alloc (.cells #[.int .i64 a, .int .i64 b] 39))) := (Below.refl _ _).alloc (Nat.le_refl _) _
      obtain ⟨w3, hw3⟩ : ∃ y, wr.alloc (.cells #[.int .i64 a, .int .i64 b] 39) = y := ⟨_, rfl⟩
      have hbx : w3.heap[wr.heap.size]? = some (.cells #[.int .i64 a, .int .i64 b] 39) := by rw [← hw3]; exact heap_alloc_new _ _
      rw [hw3] at HBa HBr
      have k0 : w3.cell? ⟨wr.heap.size, 0, none⟩ = some (.int .i64 a) := by simp [World.cell?, hbx]
      have k1 : w3.cell? ⟨wr.heap.size, 1, none⟩ = some (.int .i64 b) := by simp [World.cell?, hbx]
      have HB13 := hide (HB2.out.trans (HBa.out.mono HB2.out.size))
      obtain ⟨q0, q1, q2, q3⟩ := HD.out w3 HB13.out
      have HIn : Hid (∀ p n, Calls Try.prog 13 #[.slice ca R.length ccap, .int .i64 p] (w3.drewN n) fun e w' => InA E p e ∧ w' = w3.drewN n) := fun p n => HIN.out p (w3.drewN n) (below_drewN HB13.out n)
      have HKB : Hid (∀ W, Below w3.heap.size w3 W → W.cell? ⟨wr.heap.size, 0, none⟩ = some (.int .i64 a) ∧ W.cell? ⟨wr.heap.size, 1, none⟩ = some (.int .i64 b)) := fun W hW => ⟨(hW.cell (World.block_lt_of_cell? _ _ k0)).trans k0, (hW.cell (World.block_lt_of_cell? _ _ k1)).trans k1⟩
      have hprev3 : j = 0 ∨ ∃ (M : Nat) (pv : Int), 0 < j ∧ ((j : Int) - 1) = (M : Int) ∧ M < G.length ∧ pv < a ∧ w3.cell? ⟨b0, o0 + M * 2 + 1, none⟩ = some (.int .i64 pv) := by
        rcases hprev with h0 | ⟨M, pv, h1, h2, h3, h4, h5⟩
        · exact .inl h0
        · exact .inr ⟨M, pv, h1, h2, h3, h4, (HBr.out.cell (World.block_lt_of_cell? _ _ h5)).trans h5⟩
      have hn1 : decide (a < 0) = false := decide_eq_false (by omega)
      have hn2 : decide (b ≤ a) = false := decide_eq_false (by omega)
      have hn3 : decide (d < b) = false := decide_eq_false (by omega)
      clear he hrg hbx hprev hbl a3 a4 a5 a6
      have hj0 : j = 0 → (((0 : Nat) : Int) = (j : Int)) := fun e => by rw [e]
      clear hj0
      go_wp2
      go_cut [57] (fun s57 wx => s57 = .bool false ∧ ∃ n, wx = w3.drewN n)
      case first =>
        rcases hprev3 with h0 | ⟨M, pv, h1, h2, h3, h4, h5⟩
        · have hz : decide ((0 : Int) < (j : Int)) = false := decide_eq_false (by omega)
          have hz' : ¬ (0 : Int) < (j : Int) := by omega
          have hzn : decide (0 < j) = false := decide_eq_false (by omega)
          clear h0
          go_quiet (fail)
          go_wp2
          go_meet
          exact ⟨rfl, _, rfl⟩
        · have hz : decide ((0 : Int) < (j : Int)) = true := decide_eq_true (by omega)
          have hz' : (0 : Int) < (j : Int) := by omega
          have hzn : decide (0 < j) = true := decide_eq_true (by omega)
          have hy : decide (a ≤ pv) = false := decide_eq_false (by omega)
          have h3' : (M : Int) < (G.length : Int) := by omega
          have h3'' : (0 : Int) ≤ (M : Int) := by omega
          have hy' : ¬ a ≤ pv := by omega
          go_quiet (fail)
          go_wp2
          go_meet
          exact ⟨rfl, _, rfl⟩
      case rest =>
        obtain ⟨rfl, nq, rfl⟩ := hcut
        clear hn1 hn2 hn3 hprev3
        have hcs : ((0 < a ∧ Ins E (a - 1)) ∨ ¬ 0 < a) ∧ ((b < d ∧ Ins E b) ∨ ¬ b < d) := ⟨by
          by_cases c : 0 < a
          · exact .inl ⟨c, HA3.out c⟩
          · exact .inr c, by
          by_cases c : b < d
          · exact .inl ⟨c, HA4.out c⟩
          · exact .inr c⟩
        have HI0 : Hid (Calls Try.prog 13 #[.slice ca R.length ccap, .int .i64 a] (w3.drewN nq) fun e w' => e = .returned (.bool false) ∧ w' = w3.drewN nq) := (HIn.out a nq).mono fun e w' ⟨⟨bb, h1, h2⟩, h3⟩ => ⟨by
          cases bb with
          | false => exact h1
          | true => exact absurd (h2.1 rfl) HA5.out, h3⟩
        have HI1 : Hid (∀ p, Ins E p → Calls Try.prog 13 #[.slice ca R.length ccap, .int .i64 p] (w3.drewN nq) fun e w' => e = .returned (.bool true) ∧ w' = w3.drewN nq) := fun p hp => (HIn.out p nq).mono fun e w' ⟨⟨bb, h1, h2⟩, h3⟩ => ⟨by
          rw [h2.2 hp] at h1; exact h1, h3⟩
        obtain ⟨hc1, hc2⟩ := hcs
        have ha9 : a ≤ 9223372036854775807 := by have := hd.2; omega
        go_upto_region 8 with fail
        go_cut [91] (fun s91 wx => s91 = .bool false ∧ wx = w3.drewN nq)
        case first =>
          rcases hc1 with ⟨c1', i1⟩ | c1' <;> rcases hc2 with ⟨c2', i2⟩ | c2'
          · go_wp2_with fail
            refine (HI1.out (a - 1) i1).mono ?_
            rintro e w9 ⟨rfl, h9⟩
            rw [h9]
            clear h9 w9
            go_wp2_with fail
            refine (HI1.out b i2).mono ?_
            rintro e w9 ⟨rfl, h9⟩
            rw [h9]
            clear h9 w9
            go_wp2_with fail
            refine (HI0.out).mono ?_
            rintro e w9 ⟨rfl, h9⟩
            rw [h9]
            clear h9 w9
            go_wp2
            go_meet
            exact ⟨rfl, rfl⟩
          · go_wp2_with fail
            refine (HI1.out (a - 1) i1).mono ?_
            rintro e w9 ⟨rfl, h9⟩
            rw [h9]
            clear h9 w9
            go_wp2_with fail
            refine (HI0.out).mono ?_
            rintro e w9 ⟨rfl, h9⟩
            rw [h9]
            clear h9 w9
            go_wp2
            go_meet
            exact ⟨rfl, rfl⟩
          · go_wp2_with fail
            refine (HI1.out b i2).mono ?_
            rintro e w9 ⟨rfl, h9⟩
            rw [h9]
            clear h9 w9
            go_wp2_with fail
            refine (HI0.out).mono ?_
            rintro e w9 ⟨rfl, h9⟩
            rw [h9]
            clear h9 w9
            go_wp2
            go_meet
            exact ⟨rfl, rfl⟩
          · go_wp2_with fail
            refine (HI0.out).mono ?_
            rintro e w9 ⟨rfl, h9⟩
            rw [h9]
            clear h9 w9
            go_wp2
            go_meet
            exact ⟨rfl, rfl⟩
        case rest =>
          obtain ⟨rfl, rfl⟩ := hcut
          clear hc1 hc2
          clear HI0 HI1
          go_wp2
          go_loopw [6, 7] (fun iv _ wq => ∃ (x : Nat), iv = .int .i64 (x : Int) ∧ x ≤ R.length ∧ Hid (Below w3.heap.size w3 wq)) (fun iv _ _ => R.length - (intOf iv).toNat)
          case atStart => exact ⟨0, rfl, Nat.zero_le _, below_drewN (Below.refl _ _) _⟩
          case round =>
            obtain ⟨x, rfl, hx, HBq⟩ := hrel
            have HB1q := hide (HB13.out.trans (HBq.out.mono HB13.out.size))
            obtain ⟨r0, r1, r2, r3⟩ := HD.out wr HB1q.out
            by_cases hxl : x < R.length
            · have hxl' : (x : Int) < (R.length : Int) := by omega
              obtain ⟨b1, o1, hla, hbl, hrg⟩ := srLt (HR1.out.low HB1q.out) (i := x) (by rw [List.length_map]; exact hxl)
              rw [csN_get hxl] at hrg
              have HNO := hide (HA6.out _ (HEM.out x hxl))
              obtain ⟨l, hl⟩ : ∃ l, l = R.getD x Ent.zero := ⟨_, rfl⟩
              rw [← hl] at hrg HNO
              obtain ⟨A, hA⟩ : ∃ A, A = l.cs := ⟨_, rfl⟩
              obtain ⟨F, hF⟩ : ∃ F, F = l.frm := ⟨_, rfl⟩
              obtain ⟨T, hT⟩ : ∃ T, T = l.til := ⟨_, rfl⟩
              have HA17 : Hid (A[17]? = some (.int .i64 F)) := by show _ = _; rw [hA, hF]; rfl
              have HA19 : Hid (A[19]? = some (.int .i64 T)) := by show _ = _; rw [hA, hT]; rfl
              have HSA : Hid (A.size = 20) := by rw [hA]; exact rsN _
              have HOA : Hid (A.all (·.oneCell') = true) := by rw [hA]; exact roN _
              rw [← hA] at hrg
              rw [← hF, ← hT] at HNO
              have hno := HNO.out
              simp only at hno
              have HRG := hide hrg
              have HZ : Hid ((wr.alloc (.cells #[.int .i64 0, .int .i64 0, .int .i64 0, .int .i64 0, .int .i64 0, .int .u32 0, .int .i64 0, .int .i64 0, .string ⟨#[]⟩, .string ⟨#[]⟩, .int .i64 0, .int .i64 0, .int .i64 0, .int .i64 0, .int .i64 0, .string ⟨#[]⟩, .string ⟨#[]⟩, .int .i64 0, .int .i64 0, .int .i64 0] 32)).heap[wr.heap.size]? = some (.cells #[.int .i64 0, .int .i64 0, .int .i64 0, .int .i64 0, .int .i64 0, .int .u32 0, .int .i64 0, .int .i64 0, .string ⟨#[]⟩, .string ⟨#[]⟩, .int .i64 0, .int .i64 0, .int .i64 0, .int .i64 0, .int .i64 0, .string ⟨#[]⟩, .string ⟨#[]⟩, .int .i64 0, .int .i64 0, .int .i64 0] 32 (0, 0))) := heap_alloc_new _ _
              obtain ⟨ws, hws⟩ : ∃ y, wr.alloc (.cells A 32) = y := ⟨_, rfl⟩
              have HBs : Hid (Below w3.heap.size w3 ws) := by rw [← hws]; exact HBq.out.alloc HBq.out.size _
              have n1 : ws.heap[wr.heap.size]? = some (.cells A 32 (0, 0)) := by rw [← hws]; exact heap_alloc_new _ _
              have HW3 : Hid ((wr.alloc (.cells #[.int .i64 0, .int .i64 0, .int .i64 0, .int .i64 0, .int .i64 0, .int .u32 0, .int .i64 0, .int .i64 0, .string ⟨#[]⟩, .string ⟨#[]⟩, .int .i64 0, .int .i64 0, .int .i64 0, .int .i64 0, .int .i64 0, .string ⟨#[]⟩, .string ⟨#[]⟩, .int .i64 0, .int .i64 0, .int .i64 0] 32)).setRow wr.heap.size A = ws) := by show _ = _; rw [World.setRow_alloc_new]; exact hws
              have g17 : ws.cell? ⟨wr.heap.size, 17, none⟩ = some (.int .i64 F) := by simp only [World.cell?, n1]; exact HA17.out
              have g19 : ws.cell? ⟨wr.heap.size, 19, none⟩ = some (.int .i64 T) := by simp only [World.cell?, n1]; exact HA19.out
              obtain ⟨kk0, kk1⟩ := HKB.out ws HBs.out
              subst hla
              clear hl hrg hA hF hT hbl hws n1 k0 k1
              have hcq : (F < T ∧ F < b ∧ ¬ a < T) ∨ (F < T ∧ ¬ F < b) ∨ ¬ F < T := by
                by_cases e1 : F < T
                · by_cases e2 : F < b
                  · exact .inl ⟨e1, e2, fun e3 => hno ⟨e1, e2, e3⟩⟩
                  · exact .inr (.inl ⟨e1, e2⟩)
                · exact .inr (.inr e1)
              clear hno
              rcases hcq with ⟨e1, e2, e3⟩ | ⟨e1, e2⟩ | e1
              all_goals (
                go_wp2_with (first
                  | ((with_reducible refine wpList_lmN b1 (o1 + x * 20) A HSA.out ?hx HRG.out ?_); (case hx => rfl))
                  | ((with_reducible refine wpList_stN wr.heap.size A #[.int .i64 0, .int .i64 0, .int .i64 0, .int .i64 0, .int .i64 0, .int .u32 0, .int .i64 0, .int .i64 0, .string ⟨#[]⟩, .string ⟨#[]⟩, .int .i64 0, .int .i64 0, .int .i64 0, .int .i64 0, .int .i64 0, .string ⟨#[]⟩, .string ⟨#[]⟩, .int .i64 0, .int .i64 0, .int .i64 0] HSA.out rfl HOA.out ?hx ?hy HZ.out ?_); (case hx => rfl); (case hy => rfl); rw [HW3.out]))
                go_roundw
                case rel => exact ⟨x + 1, by go_num, by omega, HBs.out⟩
                case measure => simp [intOf]; omega)
            · have hxl' : ¬ (x : Int) < (R.length : Int) := by omega
              have HBf := hide (HBa.out.trans (HBq.out.mono HBa.out.size))
              go_wp2
              go_roundw
              case rel => exact ⟨j + 1, by go_num, by omega, HBf.out⟩
              case measure => simp [intOf]; omega
    · have hlt' : ¬ (j : Int) < (G.length : Int) := by omega
      have HB12 := hide (HB2.out.trans (HB.out.mono HB2.out.size))
      go_wp2
      go_loopw [8, 9, 10, 11] (fun jv _ _ _ wq => ∃ (J : Int), jv = .int .i64 J ∧ (-1 ≤ J ∧ J ≤ (R.length : Int)) ∧ Hid (Below w2.heap.size w2 wq)) (fun jv _ _ _ _ => ((R.length : Int) - intOf jv).toNat)
      case atStart => exact ⟨-1, rfl, ⟨by omega, by omega⟩, HB.out⟩
      case round =>
        clear HB12 HB
        obtain ⟨J, rfl, ⟨hJ0, hJ1⟩, HB⟩ := hrel
        have HB12 := hide (HB2.out.trans (HB.out.mono HB2.out.size))
        obtain ⟨q0, q1, q2, q3⟩ := HD.out wr HB12.out
        by_cases hJl : J < (R.length : Int)
        · have hjw : J + 1 ≤ 733007751829 := by omega
          go_upto_if 131 with fail
          go_cut [9] (fun s9 wx => ∃ p, s9 = .int .i64 p ∧ wx = wr)
          case first =>
            by_cases hJn : 0 ≤ J
            · obtain ⟨M, rfl⟩ : ∃ M : Nat, J = (M : Int) := ⟨J.toNat, by omega⟩
              have hMl : M < R.length := by omega
              obtain ⟨b1, o1, hla, hbl, hrg⟩ := srLt (HR1.out.low HB12.out) (i := M) (by rw [List.length_map]; exact hMl)
              rw [csN_get hMl] at hrg
              obtain ⟨T, hT⟩ : ∃ T, T = (R.getD M Ent.zero).til := ⟨_, rfl⟩
              have g19 := range_cell hrg (i := 19) (u := .int .i64 T) (by rw [hT]; rfl)
              subst hla
              have hJd : decide ((0 : Int) ≤ (M : Int)) = true := decide_eq_true (by omega)
              clear hrg hT hbl hJ0 hJ1 hjw hJn
              go_wp2
              go_meet
              exact ⟨_, rfl, rfl⟩
            · have hJf : decide (0 ≤ J) = false := decide_eq_false hJn
              go_wp2
              go_meet
              exact ⟨_, rfl, rfl⟩
          case rest =>
            obtain ⟨p, rfl, rfl⟩ := hcut
            by_cases hp0 : p < 0
            · go_wp2
              go_roundw
              case rel => exact ⟨J + 1, by go_num, ⟨by omega, by omega⟩, HB.out⟩
              case measure => simp [intOf]; omega
            by_cases hp1 : d ≤ p
            · go_wp2
              go_roundw
              case rel => exact ⟨J + 1, by go_num, ⟨by omega, by omega⟩, HB.out⟩
              case measure => simp [intOf]; omega
            have HIp := hide (HIN.out p _ HB12.out)
            go_wp2_with fail
            refine HIp.out.mono ?_
            rintro e w9 ⟨⟨bb, rfl, hbb⟩, h9⟩
            rw [h9]
            clear h9 w9 HIp
            cases bb with
            | true =>
              clear hbb
              go_wp2
              go_roundw
              case rel => exact ⟨J + 1, by go_num, ⟨by omega, by omega⟩, HB.out⟩
              case measure => simp [intOf]; omega
            | false =>
              have HFp : Hid (∃ g ∈ G, g.1 ≤ p ∧ p < g.2) := HGP.out.all p ⟨by omega, by omega, fun e he hc => by have := hbb.2 ⟨e, he, hc⟩; cases this⟩
              clear hbb
              go_wp2
              go_loopw [10, 11] (fun fv iv wq => ∃ (x : Nat) (fb : Bool), fv = .bool fb ∧ iv = .int .i64 (x : Int) ∧ x ≤ G.length ∧ Hid (fb = true ↔ ∃ y, y < x ∧ (G.getD y (0, 0)).1 ≤ p ∧ p < (G.getD y (0, 0)).2) ∧ Hid (Below w2.heap.size w2 wq)) (fun _ iv _ => G.length - (intOf iv).toNat)
              case atStart => exact ⟨0, false, rfl, rfl, Nat.zero_le _, ⟨fun q => (by cases q), fun ⟨y, hy, _⟩ => absurd hy (Nat.not_lt_zero _)⟩, HB.out⟩
              case round =>
                clear HB HB12 q0 q1 q2 q3
                obtain ⟨x, fb, rfl, rfl, hx, HFB, HB⟩ := hrel
                by_cases hxl : x < G.length
                · have hxl' : (x : Int) < (G.length : Int) := by omega
                  obtain ⟨b1, o1, hla, hbl, hrg⟩ := srLt (HGS.out.low HB.out) (i := x) (by rw [List.length_map]; exact hxl)
                  rw [spC_get hxl] at hrg
                  obtain ⟨e, he⟩ : ∃ e, e = G.getD x (0, 0) := ⟨_, rfl⟩
                  rw [← he] at hrg
                  have HEe := hide he
                  obtain ⟨a, b⟩ := e
                  have g0 := range_cell hrg (i := 0) (u := .int .i64 a) rfl
                  have g1 := range_cell hrg (i := 1) (u := .int .i64 b) rfl
                  rw [Nat.add_zero] at g0
                  subst hla
                  clear he hrg hbl
                  have HNX : Hid (∀ fb' : Bool, (fb' = true ↔ (fb = true ∨ (a ≤ p ∧ p < b))) → (fb' = true ↔ ∃ y, y < x + 1 ∧ (G.getD y (0, 0)).1 ≤ p ∧ p < (G.getD y (0, 0)).2)) := fun fb' hf => by
                    rw [hf, HFB.out]
                    constructor
                    · rintro (⟨y, hy, q⟩ | q)
                      · exact ⟨y, by omega, q⟩
                      · exact ⟨x, Nat.lt_succ_self _, by rw [← HEe.out]; exact q⟩
                    · rintro ⟨y, hy, q⟩
                      by_cases e : y = x
                      · rw [e, ← HEe.out] at q; exact .inr q
                      · exact .inl ⟨y, by omega, q⟩
                  cases fb with
                  | true =>
                    have HN1 : Hid (true = true ↔ ∃ y, y < x + 1 ∧ (G.getD y (0, 0)).1 ≤ p ∧ p < (G.getD y (0, 0)).2) := HNX.out true ⟨fun _ => .inl rfl, fun _ => rfl⟩
                    clear HNX
                    go_wp2
                    go_roundw
                    case rel => exact ⟨x + 1, true, rfl, by go_num, by omega, HN1.out, HB.out⟩
                    case measure => simp [intOf]; omega
                  | false =>
                    by_cases k1 : a ≤ p
                    · by_cases k2 : p < b
                      · have HN1 : Hid (true = true ↔ ∃ y, y < x + 1 ∧ (G.getD y (0, 0)).1 ≤ p ∧ p < (G.getD y (0, 0)).2) := HNX.out true ⟨fun _ => .inr ⟨k1, k2⟩, fun _ => rfl⟩
                        clear HNX
                        go_wp2
                        go_roundw
                        case rel => exact ⟨x + 1, true, rfl, by go_num, by omega, HN1.out, HB.out⟩
                        case measure => simp [intOf]; omega
                      · have HN1 : Hid (false = true ↔ ∃ y, y < x + 1 ∧ (G.getD y (0, 0)).1 ≤ p ∧ p < (G.getD y (0, 0)).2) := HNX.out false ⟨fun q => (by cases q), fun q => q.elim (fun q => by cases q) (fun q => absurd q.2 k2)⟩
                        clear HNX
                        go_wp2
                        go_roundw
                        case rel => exact ⟨x + 1, false, rfl, by go_num, by omega, HN1.out, HB.out⟩
                        case measure => simp [intOf]; omega
                    · have HN1 : Hid (false = true ↔ ∃ y, y < x + 1 ∧ (G.getD y (0, 0)).1 ≤ p ∧ p < (G.getD y (0, 0)).2) := HNX.out false ⟨fun q => (by cases q), fun q => q.elim (fun q => by cases q) (fun q => absurd q.1 k1)⟩
                      clear HNX
                      go_wp2
                      go_roundw
                      case rel => exact ⟨x + 1, false, rfl, by go_num, by omega, HN1.out, HB.out⟩
                      case measure => simp [intOf]; omega
                · have hxl' : ¬ (x : Int) < (G.length : Int) := by omega
                  obtain rfl : x = G.length := by omega
                  have hft : fb = true := HFB.out.2 (by
                    obtain ⟨g, hg, q⟩ := HFp.out
                    obtain ⟨i, hi, rfl⟩ := List.getElem_of_mem hg
                    exact ⟨i, hi, by simpa [List.getD, hi] using q⟩)
                  subst hft
                  go_wp2
                  go_roundw
                  case rel => exact ⟨J + 1, by go_num, ⟨by omega, by omega⟩, HB.out⟩
                  case measure => simp [intOf]; omega
        · obtain rfl : J = (R.length : Int) := by omega
          have hJf : ¬ (R.length : Int) < (R.length : Int) := by omega
          have HEw := hide (HEX.out wr HB12.out)
          go_wp2_with fail
          refine HEw.out.mono ?_
          rintro e w5 ⟨xa, xc, rfl, hox, hb5⟩
          have HXS := hide hox.sr
          obtain ⟨xc1, xc2⟩ : R.length ≤ xc ∧ xc ≤ 9223372036854775807 := by
            obtain ⟨a9, c9, h9, h8, h7⟩ := hox.shape
            rw [List.length_map, HSL.out] at h8
            simp only [Value.slice.injEq] at h9
            omega
          have HB15 := hide (HB12.out.trans (hb5.mono HB12.out.size))
          have HBw5 := hide (HB1.out.trans (HB15.out.mono HB1.out.size))
          clear hox hb5 HEw q0 q1 q2 q3
          obtain ⟨q0, q1, q2, q3⟩ := HD.out w5 HB15.out
          go_wp2
          go_loopw [13] (fun iv wq => ∃ (x n : Nat), iv = .int .i64 (x : Int) ∧ 1 ≤ x ∧ x ≤ R.length + 1 ∧ wq = w5.drewN n) (fun iv _ => R.length - (intOf iv).toNat)
          case atStart => exact ⟨1, 0, rfl, Nat.le_refl _, by omega, rfl⟩
          case round =>
            obtain ⟨x, n, rfl, hx1, hx2, rfl⟩ := hrel
            by_cases hxl : x < R.length
            · have hxl' : (x : Int) < (R.length : Int) := by omega
              obtain ⟨M, rfl⟩ : ∃ M, x = M + 1 := ⟨x - 1, by omega⟩
              obtain ⟨b1, o1, hla, hbl, hr1⟩ := srLt HXS.out (i := M) (by rw [List.length_map, HSL.out]; omega)
              obtain ⟨b9, o9, h9, _, hr2⟩ := srLt HXS.out (i := M + 1) (by rw [List.length_map, HSL.out]; omega)
              rw [hla] at h9
              simp only [Option.some.injEq, Addr.mk.injEq] at h9
              obtain ⟨rfl, rfl, -⟩ := h9
              rw [spC_get (by rw [HSL.out]; omega)] at hr1 hr2
              have hle : (X.getD M (0, 0)).1 ≤ (X.getD (M + 1) (0, 0)).1 := by
                have := List.pairwise_iff_getElem.1 HAS.out M (M + 1) (by rw [HSL.out]; omega) (by rw [HSL.out]; omega) (by omega)
                simpa [List.getD, show M < X.length by rw [HSL.out]; omega, show M + 1 < X.length by rw [HSL.out]; omega] using this
              have g0 := range_cell hr1 (i := 0) rfl
              have g1 := range_cell hr2 (i := 0) rfl
              rw [Nat.add_zero] at g0 g1
              obtain ⟨u, hu⟩ : ∃ u, u = (X.getD M (0, 0)).1 := ⟨_, rfl⟩
              obtain ⟨t, ht⟩ : ∃ t, t = (X.getD (M + 1) (0, 0)).1 := ⟨_, rfl⟩
              have g0' : w5.cell? ⟨b1, o1 + M * 2, none⟩ = some (.int .i64 u) := by rw [hu]; exact g0
              have g1' : w5.cell? ⟨b1, o1 + (M + 1) * 2, none⟩ = some (.int .i64 t) := by rw [ht]; exact g1
              rw [← hu, ← ht] at hle
              have hdf : decide (t < u) = false := decide_eq_false (by omega)
              have hm1 : ((M + 1 : Nat) : Int) - 1 = (M : Int) := by omega
              have hm2 : (M : Int) < (R.length : Int) := by omega
              have hm3 : M < R.length := by omega
              subst hla
              clear hu ht g0 g1 hr1 hr2 hbl hle
              obtain ⟨K, hK⟩ : ∃ K, K = M + 1 := ⟨_, rfl⟩
              rw [← hK] at hm1 hxl hxl' g1' hx1 hx2 ⊢
              have HKM := hide hK
              clear hK
              go_wp2
              go_quiet (fail)
              go_wp2
              go_roundw
              case rel => exact ⟨K + 1, _, by go_num, by omega, by omega, rfl⟩
              case measure => simp [intOf]; omega
            · have hxl' : ¬ (x : Int) < (R.length : Int) := by omega
              have HBf : Hid (Below w.heap.size w (w5.drewN n)) := below_drewN HBw5.out n
              go_wp2
              go_ret
              exact ⟨rfl, HBf.out⟩
end Go.Proofs.Ytmbgjkghcpkoiaa

