import Derived.Test.YtcgeaidegppiaaaDoorGIfj
import Derived.Test.YtcgeaidegppiaaaDoorGA30
namespace Go.Proofs.YtcgeaidegppiaaaDoor
open Go.RowKit Go.Maps
set_option maxRecDepth 20000
set_option linter.unusedVariables false

theorem hmayBe (a : Option Addr) (n c : Nat) (limit : Int) (w : World) (b : Bool) (hb : decide (n ≤ 33554432 ∧ 0 ≤ limit ∧ limit ≤ 16777216) = b) :
    Calls Tryd.prog 17 #[.slice a n c, .int .i64 limit] w fun e w' => e = .returned (.bool b) ∧ w' = w := by
  go_enter Tryd.func17, Tryd.ntmps17
  by_cases c0 : n ≤ 33554432
  · have h0 : (n : Int) ≤ 33554432 := by omega
    by_cases c1 : 0 ≤ limit
    · by_cases c2 : limit ≤ 16777216
      · obtain rfl : b = true := by rw [← hb]; exact decide_eq_true ⟨c0, c1, c2⟩
        clear hb
        go_wp2
        go_ret
        exact ⟨rfl, rfl⟩
      · obtain rfl : b = false := by rw [← hb]; exact decide_eq_false (by omega)
        clear hb
        go_wp2
        go_ret
        exact ⟨rfl, rfl⟩
    · obtain rfl : b = false := by rw [← hb]; exact decide_eq_false (by omega)
      clear hb
      go_wp2
      go_ret
      exact ⟨rfl, rfl⟩
  · have h0 : ¬ ((n : Int) ≤ 33554432) := by omega
    obtain rfl : b = false := by rw [← hb]; exact decide_eq_false (by omega)
    clear hb
    go_wp2
    go_ret
    exact ⟨rfl, rfl⟩

theorem Herd.swap {W w : World} {a b : (Nat → Nat) × Thing} (h : Herd W w [a, b]) : Herd W w [b, a] := by
  have f : ∀ (i : Nat) (d : (Nat → Nat) × Thing), [b, a][i]? = some d → ([a, b] : List ((Nat → Nat) × Thing))[1 - i]? = some d ∧ i < 2 := fun i d hd => by
    match i with
    | 0 => exact ⟨hd, by omega⟩
    | 1 => exact ⟨hd, by omega⟩
    | n + 2 => simp at hd
  exact ⟨h.bel, fun i d hd => h.rep _ d (f i d hd).1, fun i d hd => h.up _ d (f i d hd).1, fun i j d e hd he hij => h.sep _ _ d e (f i d hd).1 (f j e he).1 (by have := (f i d hd).2; have := (f j e he).2; omega)⟩

set_option maxHeartbeats 1000000 in
theorem hbegin {w : World} {v : Value} {l : List Int} (h : SB w v l) (hB : Byt l) (limit : Int) :
    Calls Tryd.prog 13 #[v, .int .i64 limit] w fun e w' => ((l.length ≤ 33554432 ∧ 0 ≤ limit ∧ limit ≤ 16777216) ∧ ∃ g r, e = .returned (.pointer (some ⟨g, 0, none⟩)) ∧ TX w w' g r (unpack l) 0 limit.toNat [] false []) ∨ (¬ (l.length ≤ 33554432 ∧ 0 ≤ limit ∧ limit ≤ 16777216) ∧ Off w 1 e w') := by
  have HS := hide h
  obtain ⟨a, c, rfl, -⟩ := h
  have HM := hide (hmayBe a l.length c limit w _ rfl)
  have HB := hide hB
  clear hB
  go_enter Tryd.func13, Tryd.ntmps13
  go_wp2_with fail
  refine HM.out.mono ?_
  rintro e w1 ⟨rfl, hw1⟩
  subst hw1
  by_cases hc : l.length ≤ 33554432 ∧ 0 ≤ limit ∧ limit ≤ 16777216
  · rw [decide_eq_true hc]
    have HC := hide hc
    have HR := hide (hnewR (Herd.nil w1) _ l HS.out HB.out hc.1)
    clear hc
    go_wp2_with fail
    refine HR.out.mono ?_
    rintro e w2 ⟨r, K, rfl, h2⟩
    obtain ⟨L, HL⟩ : ∃ L : Nat, Hid ((L : Int) = limit) := ⟨limit.toNat, by show _ = _; have := HC.out; omega⟩
    have hL : L ≤ 16777216 := by have := HC.out; have := HL.out; omega
    have HLT : Hid (limit.toNat = L) := by show _ = _; have := HL.out; omega
    obtain ⟨K3, h3⟩ := h2.box1 (txO r none 0 0 L false none none)
    have h4 := Herd.swap h3
    have h5 : Herd w1 (w2.alloc (txO r none 0 0 L false none none)) [(K3, tb w2.heap.size (txO r none 0 0 L false none none)), (K, tr r (unpack l) 0), (fun _ => 0, tl (.slice none 0 0) [])] :=
      h4.push (Below.refl _ _) ⟨World.ownsRow_nil _ _ _ _, fun k hk => by simp [Value.ownBlock] at hk, fun k hk => absurd rfl hk⟩ fun k hk => absurd rfl hk
    have HX : Hid (TX w1 (w2.alloc (txO r none 0 0 L false none none)) w2.heap.size r (unpack l) 0 L [] false []) := ⟨_, _, _, none, 0, none, none, h5, .inl ⟨rfl, rfl⟩, Nat.zero_le _, hL⟩
    rw [← HL.out]
    clear h2 h3 h4 h5 HR HM
    go_wp2
    go_ret
    rw [HLT.out]
    exact .inl ⟨HC.out, w2.heap.size, r, rfl, HX.out⟩
  · rw [decide_eq_false hc]
    have HC := hide hc
    clear hc HM
    go_wp2_with fail
    refine (giveUp_any 1 _).mono ?_
    rintro e w2 ⟨rfl, rfl⟩
    go_wp2
    exact ⟨rfl, .inr ⟨HC.out, rfl, Below.refl _ _⟩⟩

theorem ob_up {w : World} {v : Value} {l : List Int} {B : Nat} (h : OB w 0 v l) (hk : ∀ k, v.ownBlock = some k → B ≤ k) : OB w B v l := by
  obtain ⟨h0, h1⟩ := h
  refine ⟨h0, ?_⟩
  rcases h1 with h1 | ⟨g, cap, cur, rfl, h2, h3⟩
  · exact .inl h1
  · exact .inr ⟨g, cap, cur, rfl, hk g rfl, h3⟩

theorem TX.own {W w : World} {g r : Nat} {row : List Int} {p L : Nat} {out : List Int} {dn : Bool} {ys : List ((Nat → Nat) × Thing)} (H : TX W w g r row p L out dn ys) : ∃ a c, w.cell? ⟨g, 1, none⟩ = some (.slice a out.length c) ∧ OB w W.heap.size (.slice a out.length c) out := by
  obtain ⟨Kt, Kr, Ko, a, c, fl, fd, HH, hf, hk⟩ := H
  have h2 : (tl (.slice a out.length c) out).P w Ko := HH.rep 2 _ rfl
  exact ⟨a, c, (txO_cells (HH.tbat 0 rfl)).2.1, ob_up h2.1 fun k hk => HH.up 2 _ rfl k (h2.2.1 k hk)⟩

/-- How the blocks that are read so far lead to the text's answer. -/
def Rdg (row : List Int) (L p : Nat) (out : List Int) (dn : Bool) : Prop :=
  (dn = false ∧ ∀ ps E q o, Txt row L p out ps E q o → ∃ ps', Txt row L 0 [] ps' E q o) ∨ (dn = true ∧ ∃ ps, Txt row L 0 [] ps 0 p out)

theorem Rdg.step {row : List Int} {L p : Nat} {out : List Int} {f : Bool} {k : Int} {q : Nat} {o : List Int} (h : Rdg row L p out false) (hb : Blk row L p out 0 f k q o) : Rdg row L q o f := by
  rcases h with ⟨_, h⟩ | ⟨h, _⟩
  · cases f with
    | false => exact .inl ⟨rfl, fun ps E q' o' ht => h _ _ _ _ (Txt.go hb ht)⟩
    | true => exact .inr ⟨rfl, h _ _ _ _ (Txt.last hb)⟩
  · cases h

set_option maxHeartbeats 4000000 in
/-- What Inflate runs. -/
theorem hinf1 {w : World} {b0 b1 b2 b3 : Nat} {v : Value} {l : List Int} {limit : Int} (c0 : w.cell? ⟨b0, 0, none⟩ = some v) (c1 : w.cell? ⟨b1, 0, none⟩ = some (.int .i64 limit)) (c2 : ∃ u, w.cell? ⟨b2, 0, none⟩ = some u) (c3 : ∃ u, w.cell? ⟨b3, 0, none⟩ = some u) (f2 : w.frozen? ⟨b2, 0, none⟩ = false) (f3 : w.frozen? ⟨b3, 0, none⟩ = false) (h23 : b2 ≠ b3)
    (h : SB w v l) (hB : Byt l) (T : Tab w) (O : Odr w) :
    Calls Tryd.prog 12 #[.pointer (some ⟨b0, 0, none⟩), .pointer (some ⟨b1, 0, none⟩), .pointer (some ⟨b2, 0, none⟩), .pointer (some ⟨b3, 0, none⟩)] w fun e w' => ∃ E n o, Ifl l limit E n o ∧ ((E = 0 ∧ e = .returned (.tuple #[]) ∧ ∃ w1 a c, Below w.heap.size w w1 ∧ OB w1 w.heap.size (.slice a o.length c) o ∧ w' = (w1.setCell ⟨b2, 0, none⟩ (.slice a o.length c)).setCell ⟨b3, 0, none⟩ (.int .i64 n)) ∨ (E ≠ 0 ∧ Off w E e w')) := by
  have HT := hide T
  have HO := hide O
  have HBG := hide (hbegin h hB limit)
  have hb2 : b2 < w.heap.size := by obtain ⟨u, hu⟩ := c2; exact World.block_lt_of_cell? _ _ hu
  have hb3 : b3 < w.heap.size := by obtain ⟨u, hu⟩ := c3; exact World.block_lt_of_cell? _ _ hu
  have HC2 := hide c2
  have HC3 := hide c3
  have HF2 := hide f2
  have HF3 := hide f3
  have HBW := hide hB
  clear T O h hB c2 c3 f2 f3
  go_enter Tryd.func12, Tryd.ntmps12
  go_wp2_with fail
  refine HBG.out.mono ?_
  rintro e w1 (⟨hdom, g, r, rfl, h1⟩ | ⟨hdom, rfl, h1⟩)
  case inr =>
    have HX := hide h1
    have HI : Hid (Ifl l limit 1 0 []) := .inl ⟨hdom, rfl, rfl, rfl⟩
    clear h1 c0 c1 hdom
    go_wp2
    exact ⟨rfl, 1, 0, [], HI.out, .inr ⟨by decide, rfl, HX.out⟩⟩
  obtain ⟨L, HL⟩ : ∃ L : Nat, Hid (L = limit.toNat) := ⟨_, rfl⟩
  rw [← HL.out] at h1
  have HX1 := hide h1
  have HDM := hide hdom
  have HRD : Hid (Rdg (unpack l) L 0 [] false) := .inl ⟨rfl, fun ps E q o ht => ⟨ps, ht⟩⟩
  have HIF : Hid (∀ E q o, (∃ ps, Txt (unpack l) L 0 [] ps E q o) → (E = 0 → Ifl l limit 0 q o) ∧ (E ≠ 0 → Ifl l limit E 0 [])) := fun E q o ⟨ps, ht⟩ => by
    rw [HL.out] at ht
    exact ⟨fun he => .inr ⟨HDM.out, ps, q, o, by rw [← he]; exact ht, .inl ⟨rfl, rfl, rfl⟩⟩, fun he => .inr ⟨HDM.out, ps, q, o, ht, .inr ⟨he, rfl, rfl⟩⟩⟩
  obtain ⟨row, HROW⟩ : ∃ row, Hid (row = unpack l) := ⟨_, rfl⟩
  rw [← HROW.out] at HX1 HRD HIF
  clear h1 hdom HBG c0 c1
  go_wp2
  go_loopw [] (fun wr => ∃ (p' : Nat) (o' : List Int) (dn : Bool) (ys : List ((Nat → Nat) × Thing)), Hid (TX w wr g r row p' L o' dn ys) ∧ Hid (Rdg row L p' o' dn)) (fun wr => row.length + 1 - (intOf ((wr.cell? ⟨r, 1, none⟩).getD undef)).toNat)
  case atStart => exact ⟨0, [], false, [], HX1, HRD⟩
  case round =>
    obtain ⟨p', o', dn, ys, HX, HR⟩ := hrel
    clear HX1 HRD
    have hms : (intOf ((wr.cell? ⟨r, 1, none⟩).getD undef)).toNat = p' := by rw [HX.out.at]; simp [intOf]
    have HMS := hide hms
    obtain ⟨ax, cx, d0, d1, d3, -, -, -, hat⟩ := HX.out.cells
    clear hms
    cases dn with
    | false =>
      have HBK := hide (hblock HX.out HT.out HO.out)
      clear d0 d1 hat
      go_wp2_with fail
      refine HBK.out.mono ?_
      rintro e w2 ⟨E, f, k, q, o, hblk, ⟨rfl, rfl, zs, h2⟩ | ⟨he, rfl, h2⟩⟩
      · have HX2 := hide h2
        have HR2 := hide (HR.out.step hblk)
        have HLT := hide (hblk.lt HX.out.rd.1 rfl)
        clear h2 hblk d3 HBK
        go_wp2
        go_roundw
        case rel => exact ⟨q, o, f, _, HX2, HR2⟩
        case measure =>
          rw [HMS.out, HX2.out.at]
          simp [intOf]
          have := HLT.out
          omega
      · have HX2 := hide h2
        have HI : Hid (Ifl l limit E 0 []) := by
          rcases HR.out with ⟨_, hr⟩ | ⟨hr, _⟩
          · exact (HIF.out E p' o' (hr [] _ _ _ (Txt.bad hblk he))).2 he
          · cases hr
        clear h2 hblk d3
        go_wp2
        exact ⟨rfl, E, 0, [], HI.out, .inr ⟨he, rfl, HX2.out⟩⟩
    | true =>
      have HI : Hid (Ifl l limit 0 p' o') := by
        rcases HR.out with ⟨hr, _⟩ | ⟨_, hr⟩
        · cases hr
        · exact (HIF.out 0 p' o' hr).1 rfl
      obtain ⟨a5, c5, e1, ho5⟩ := HX.out.own
      rw [d1] at e1
      injection e1 with e1
      injection e1 with e1 _ e3
      subst e1; subst e3
      obtain ⟨M, HM⟩ : ∃ M : Nat, Hid (M = o'.length) := ⟨_, rfl⟩
      rw [← HM.out] at d1
      have HAT : Hid (Calls Tryd.prog 15 #[.pointer (some ⟨r, 0, none⟩)] wr.drew fun e w' => e = .returned (.int .i64 p') ∧ w' = wr.drew) := hat 1
      have HO5 := hide ho5
      have hbl := HX.out.bel
      have HBL := hide hbl
      obtain ⟨u2, hu2⟩ := HC2.out
      obtain ⟨u3, hu3⟩ := HC3.out
      have k2 : wr.cell? ⟨b2, 0, none⟩ = some u2 := by rw [hbl.cell hb2]; exact hu2
      have k3 : wr.cell? ⟨b3, 0, none⟩ = some u3 := by rw [hbl.cell hb3]; exact hu3
      have k4 : wr.frozen? ⟨b2, 0, none⟩ = false := by rw [hbl.frozen hb2]; exact HF2.out
      have k5 : wr.frozen? ⟨b3, 0, none⟩ = false := by rw [hbl.frozen hb3]; exact HF3.out
      have h32 : ¬ b3 = b2 := fun e => h23 e.symm
      clear hat ho5 hbl hu2 hu3
      go_wp2
      go_region_with (go_at_call 15; (with_reducible refine HAT.out.mono ?_); rintro e w7 ⟨rfl, hw7⟩; rw [hw7]; clear hw7)
      all_goals
        go_wp2
        (try simp only [Exit.inBlock, Exit.then])
        refine bodyPost_end (results_none rfl _ _ _) rfl ?_
        refine ⟨0, p', o', HI.out, .inl ⟨rfl, rfl, wr.drew, ax, cx, HBL.out.drew, HO5.out.move (fun k hk => rfl), ?_⟩⟩
        rw [← HM.out]
        rfl
end Go.Proofs.YtcgeaidegppiaaaDoor

