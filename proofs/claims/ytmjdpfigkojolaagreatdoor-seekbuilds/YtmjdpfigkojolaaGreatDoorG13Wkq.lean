import Derived.Test.YtmjdpfigkojolaaGreatDoorG08Ifa
import Derived.Defers
import Derived.Recover
import Derived.Test.YtmjdpfigkojolaaGreatDoorG12Ifj
import Derived.Test.YtmjdpfigkojolaaGreatDoorG11Ifp
import Derived.Test.YtmjdpfigkojolaaGreatDoorG00Oix
import Derived.Maps.AppendAt
import Derived.Deep.AppendLies
import Derived.Deep.MidRow
import Derived.Deep.RegionHeld3
import Derived.Laws.CopyRow
import Derived.Laws.MakeOwn
import Derived.Deep.DeepCutAuto
import Derived.Deep.RegionLaw
namespace Go.Proofs.YtmjdpfigkojolaaGreatDoor
open Go.RowKit Go.Maps
set_option maxRecDepth 20000
set_option linter.unusedVariables false

theorem cau_idle (p : Addr) (w : World) :
    CallsD Tryz.prog 35 #[.pointer (some p)] .returning w fun e u' w' => e = .returned (.tuple #[]) ∧ u' = .returning ∧ w' = w := by
  refine callsD_of_wpS Tryz.func35 rfl fun c₀ cs hu => ?_
  apply wpS_seq
  apply wpS_region
  simp [wpOpsS, go_sem, recoverD, hu, Tryz.ntmps35, Exit.thenS]
  refine wpS_of_wp ?_
  have hn : ∀ w : World, (binOp BinOp.eql 20 .nilIface .nilIface).run Tryz.prog w = .ok (.bool true) w := fun _ => by kernel_rfl
  go_wp2
  cases c₀
  simp_all [bodyPostS, results, Tryz.results35]

set_option maxHeartbeats 2000000 in
theorem cau_fault (b : Nat) (E x : Int) (older : List PanicEntry) (w : World) (hc : w.cell? ⟨b, 0, none⟩ = some (.int .i64 x)) (hz : w.frozen? ⟨b, 0, none⟩ = false) (hb : b < w.heap.size) :
    CallsD Tryz.prog 35 #[.pointer (some ⟨b, 0, none⟩)] (.panicking ({ v := .iface 83 (.agg #[.int .i64 E]), recovered := false } :: older)) w fun e u' w' =>
      e = .returned (.tuple #[]) ∧ u' = .panicking ({ v := .iface 83 (.agg #[.int .i64 E]), recovered := true } :: older) ∧ w' = (w.setCell ⟨b, 0, none⟩ (.int .i64 E)).alloc (.cells #[.int .i64 E] 83) := by
  refine callsD_of_wpS Tryz.func35 rfl fun c₀ cs hu => ?_
  apply wpS_seq
  apply wpS_region
  simp [wpOpsS, go_sem, recoverD, hu, Tryz.ntmps35, Exit.thenS]
  refine wpS_of_wp ?_
  have hta : ∀ w : World, (Instr.typeAssert (.iface 83 (.agg #[.int .i64 E])) 20 83 true).run Tryz.prog w = .ok (.tuple #[.agg #[.int .i64 E], .bool true]) w := fun _ => by kernel_rfl
  have hc1 : (w.alloc (.cells #[.int .i64 E] 83)).cell? ⟨b, 0, none⟩ = some (.int .i64 x) := by rw [((Below.refl w.heap.size w).alloc (Nat.le_refl _) _).cell hb]; exact hc
  have hz1 : (w.alloc (.cells #[.int .i64 E] 83)).frozen? ⟨b, 0, none⟩ = false := by
    rw [((Below.refl w.heap.size w).alloc (Nat.le_refl _) _).frozen hb]; exact hz
  have hne : ¬ b = w.heap.size := by omega
  have hne2 : ¬ w.heap.size = b := by omega
  go_wp2
  cases c₀
  simp_all [bodyPostS, results, Tryz.results35]

theorem hcaught (w : World) (fid : Nat) (caps : Array Value) (hcf : ∀ w : World, (callFunc fid caps).run Tryz.prog w = .ok (.enter fid caps) w) (R : World → Prop) (R' : Int → World → Prop)
    (hC : Calls Tryz.prog fid caps (w.alloc (.cells #[.int .i64 0] 25)) fun e w' => (e = .returned (.tuple #[]) ∧ R w') ∨ ∃ E, e = flt E ∧ R' E w')
    (h1 : ∀ w', R w' → w'.cell? ⟨w.heap.size, 0, none⟩ = some (.int .i64 0) ∧ w'.frozen? ⟨w.heap.size, 0, none⟩ = false ∧ w.heap.size < w'.heap.size)
    (h2 : ∀ E w', R' E w' → w'.cell? ⟨w.heap.size, 0, none⟩ = some (.int .i64 0) ∧ w'.frozen? ⟨w.heap.size, 0, none⟩ = false ∧ w.heap.size < w'.heap.size) :
    Calls Tryz.prog 22 #[.func (.func fid) #[] caps] w fun e w' => (e = .returned (.int .i64 0) ∧ ∃ w1, R w1 ∧ w' = w1.setCell ⟨w.heap.size, 0, none⟩ (.int .i64 0)) ∨ ∃ E w1, e = .returned (.int .i64 E) ∧ R' E w1 ∧ w' = (w1.setCell ⟨w.heap.size, 0, none⟩ (.int .i64 E)).alloc (.cells #[.int .i64 E] 83) := by
  have hmf : ∀ (fn : Fn) (first cap : Array Value) (w : World), (Instr.makeFunc fn first cap).run Tryz.prog w = .ok (.func fn first cap) w := fun _ _ _ _ => rfl
  have HC := hide hC
  clear hC
  go_enter_defers Tryz.func22, Tryz.ntmps22
  go_wp2_with fail
  refine HC.out.mono ?_
  rintro e w1 (⟨rfl, hR⟩ | ⟨E, rfl, hR⟩)
  · obtain ⟨a1, a2, a3⟩ := h1 _ hR
    have HR := hide hR
    have b1 : (w1.setCell ⟨w.heap.size, 0, none⟩ (.int .i64 0)).cell? ⟨w.heap.size, 0, none⟩ = some (.int .i64 0) := World.cell?_setCell_same _ _ _ a1
    clear hR
    go_wp2
    refine leaves_cons (f := 35) (args := #[.pointer (some ⟨w.heap.size, 0, none⟩)]) (by simp) (by simp [go_sem]) ?_
    refine (cau_idle ⟨w.heap.size, 0, none⟩ _).mono ?_
    rintro e u' w'' ⟨rfl, rfl, rfl⟩
    refine ⟨.int .i64 0, by simp [results, Tryz.results22, go_sem, b1], .inl ⟨rfl, w1, HR.out, rfl⟩⟩
  · obtain ⟨a1, a2, a3⟩ := h2 _ _ hR
    have HR := hide hR
    have b1 : (w1.setCell ⟨w.heap.size, 0, none⟩ (.int .i64 E)).cell? ⟨w.heap.size, 0, none⟩ = some (.int .i64 E) := World.cell?_setCell_same _ _ _ a1
    have b2 : ((w1.setCell ⟨w.heap.size, 0, none⟩ (.int .i64 E)).alloc (.cells #[.int .i64 E] 83)).cell? ⟨w.heap.size, 0, none⟩ = some (.int .i64 E) := by
      rw [((Below.refl (w1.setCell ⟨w.heap.size, 0, none⟩ (.int .i64 E)).heap.size (w1.setCell ⟨w.heap.size, 0, none⟩ (.int .i64 E))).alloc (Nat.le_refl _) _).cell (by rw [size_setCell]; exact a3)]
      exact b1
    clear hR
    go_wp2
    refine leaves_cons (f := 35) (args := #[.pointer (some ⟨w.heap.size, 0, none⟩)]) (by simp) (by simp [go_sem]) ?_
    refine (cau_fault w.heap.size E 0 [] _ a1 a2 a3).mono ?_
    rintro e u' w'' ⟨rfl, rfl, rfl⟩
    refine ⟨.int .i64 E, by simp [results, Tryz.results22, go_sem, b2], .inr ⟨E, w1, rfl, HR.out, rfl⟩⟩
end Go.Proofs.YtmjdpfigkojolaaGreatDoor

namespace Go.Proofs.YtmjdpfigkojolaaGreatDoor
open Go.RowKit Go.Maps
set_option maxRecDepth 20000
set_option linter.unusedVariables false

theorem hmayBe (a : Option Addr) (n c : Nat) (limit : Int) (w : World) (b : Bool) (hb : decide (n ≤ 33554432 ∧ 0 ≤ limit ∧ limit ≤ 16777216) = b) :
    Calls Tryz.prog 36 #[.slice a n c, .int .i64 limit] w fun e w' => e = .returned (.bool b) ∧ w' = w := by
  go_enter Tryz.func36, Tryz.ntmps36
  by_cases c0 : n ≤ 33554432
  · have h0 : (n : Int) ≤ 33554432 := by omega
    by_cases c1 : 0 ≤ limit
    · by_cases c2 : limit ≤ 16777216
      · obtain rfl : b = true := by rw [← hb]; exact decide_eq_true ⟨c0, c1, c2⟩
        clear hb
        go_wp2
        go_ret
        exact ⟨rfl, rfl⟩
      · obtain rfl : b = false := by rw [← hb]; exact decide_eq_false (by omega)
        clear hb
        go_wp2
        go_ret
        exact ⟨rfl, rfl⟩
    · obtain rfl : b = false := by rw [← hb]; exact decide_eq_false (by omega)
      clear hb
      go_wp2
      go_ret
      exact ⟨rfl, rfl⟩
  · have h0 : ¬ ((n : Int) ≤ 33554432) := by omega
    obtain rfl : b = false := by rw [← hb]; exact decide_eq_false (by omega)
    clear hb
    go_wp2
    go_ret
    exact ⟨rfl, rfl⟩

theorem Herd.swap {W w : World} {a b : (Nat → Nat) × Thing} (h : Herd W w [a, b]) : Herd W w [b, a] := by
  have f : ∀ (i : Nat) (d : (Nat → Nat) × Thing), [b, a][i]? = some d → ([a, b] : List ((Nat → Nat) × Thing))[1 - i]? = some d ∧ i < 2 := fun i d hd => by
    match i with
    | 0 => exact ⟨hd, by omega⟩
    | 1 => exact ⟨hd, by omega⟩
    | n + 2 => simp at hd
  exact ⟨h.bel, fun i d hd => h.rep _ d (f i d hd).1, fun i d hd => h.up _ d (f i d hd).1, fun i j d e hd he hij => h.sep _ _ d e (f i d hd).1 (f j e he).1 (by have := (f i d hd).2; have := (f j e he).2; omega)⟩

set_option maxHeartbeats 1000000 in
theorem hbegin {w : World} {v : Value} {l : List Int} (h : SB w v l) (hB : Byt l) (limit : Int) :
    Calls Tryz.prog 24 #[v, .int .i64 limit] w fun e w' => ((l.length ≤ 33554432 ∧ 0 ≤ limit ∧ limit ≤ 16777216) ∧ ∃ g r, e = .returned (.pointer (some ⟨g, 0, none⟩)) ∧ TX w w' g r (unpack l) 0 limit.toNat [] false []) ∨ (¬ (l.length ≤ 33554432 ∧ 0 ≤ limit ∧ limit ≤ 16777216) ∧ Off w 1 e w') := by
  have HS := hide h
  obtain ⟨a, c, rfl, -⟩ := h
  have HM := hide (hmayBe a l.length c limit w _ rfl)
  have HB := hide hB
  clear hB
  go_enter Tryz.func24, Tryz.ntmps24
  go_wp2_with fail
  refine HM.out.mono ?_
  rintro e w1 ⟨rfl, hw1⟩
  subst hw1
  by_cases hc : l.length ≤ 33554432 ∧ 0 ≤ limit ∧ limit ≤ 16777216
  · rw [decide_eq_true hc]
    have HC := hide hc
    have HR := hide (hnewR (Herd.nil w1) _ l HS.out HB.out hc.1)
    clear hc
    go_wp2_with fail
    refine HR.out.mono ?_
    rintro e w2 ⟨r, K, rfl, h2⟩
    obtain ⟨L, HL⟩ : ∃ L : Nat, Hid ((L : Int) = limit) := ⟨limit.toNat, by show _ = _; have := HC.out; omega⟩
    have hL : L ≤ 16777216 := by have := HC.out; have := HL.out; omega
    have HLT : Hid (limit.toNat = L) := by show _ = _; have := HL.out; omega
    obtain ⟨K3, h3⟩ := h2.box1 (txO r none 0 0 L false none none)
    have h4 := Herd.swap h3
    have h5 : Herd w1 (w2.alloc (txO r none 0 0 L false none none)) [(K3, tb w2.heap.size (txO r none 0 0 L false none none)), (K, tr r (unpack l) 0), (fun _ => 0, tl (.slice none 0 0) [])] :=
      h4.push (Below.refl _ _) ⟨World.ownsRow_nil _ _ _ _, fun k hk => by simp [Value.ownBlock] at hk, fun k hk => absurd rfl hk⟩ fun k hk => absurd rfl hk
    have HX : Hid (TX w1 (w2.alloc (txO r none 0 0 L false none none)) w2.heap.size r (unpack l) 0 L [] false []) := ⟨_, _, _, none, 0, none, none, h5, .inl ⟨rfl, rfl⟩, Nat.zero_le _, hL⟩
    rw [← HL.out]
    clear h2 h3 h4 h5 HR HM
    go_wp2
    go_ret
    rw [HLT.out]
    exact .inl ⟨HC.out, w2.heap.size, r, rfl, HX.out⟩
  · rw [decide_eq_false hc]
    have HC := hide hc
    clear hc HM
    go_wp2_with fail
    refine (giveUp_any 1 _).mono ?_
    rintro e w2 ⟨rfl, rfl⟩
    go_wp2
    exact ⟨rfl, .inr ⟨HC.out, rfl, Below.refl _ _⟩⟩

theorem ob_up {w : World} {v : Value} {l : List Int} {B : Nat} (h : OB w 0 v l) (hk : ∀ k, v.ownBlock = some k → B ≤ k) : OB w B v l := by
  obtain ⟨h0, h1⟩ := h
  refine ⟨h0, ?_⟩
  rcases h1 with h1 | ⟨g, cap, cur, rfl, h2, h3⟩
  · exact .inl h1
  · exact .inr ⟨g, cap, cur, rfl, hk g rfl, h3⟩

theorem TX.own {W w : World} {g r : Nat} {row : List Int} {p L : Nat} {out : List Int} {dn : Bool} {ys : List ((Nat → Nat) × Thing)} (H : TX W w g r row p L out dn ys) : ∃ a c, w.cell? ⟨g, 1, none⟩ = some (.slice a out.length c) ∧ OB w W.heap.size (.slice a out.length c) out := by
  obtain ⟨Kt, Kr, Ko, a, c, fl, fd, HH, hf, hk⟩ := H
  have h2 : (tl (.slice a out.length c) out).P w Ko := HH.rep 2 _ rfl
  exact ⟨a, c, (txO_cells (HH.tbat 0 rfl)).2.1, ob_up h2.1 fun k hk => HH.up 2 _ rfl k (h2.2.1 k hk)⟩

def Rdg (row : List Int) (L p : Nat) (out : List Int) (dn : Bool) : Prop :=
  (dn = false ∧ ∀ ps E q o, Txt row L p out ps E q o → ∃ ps', Txt row L 0 [] ps' E q o) ∨ (dn = true ∧ ∃ ps, Txt row L 0 [] ps 0 p out)

theorem Rdg.step {row : List Int} {L p : Nat} {out : List Int} {f : Bool} {k : Int} {q : Nat} {o : List Int} (h : Rdg row L p out false) (hb : Blk row L p out 0 f k q o) : Rdg row L q o f := by
  rcases h with ⟨_, h⟩ | ⟨h, _⟩
  · cases f with
    | false => exact .inl ⟨rfl, fun ps E q' o' ht => h _ _ _ _ (Txt.go hb ht)⟩
    | true => exact .inr ⟨rfl, h _ _ _ _ (Txt.last hb)⟩
  · cases h

set_option maxHeartbeats 4000000 in
theorem hinf1 {w : World} {b0 b1 b2 b3 : Nat} {v : Value} {l : List Int} {limit : Int} (c0 : w.cell? ⟨b0, 0, none⟩ = some v) (c1 : w.cell? ⟨b1, 0, none⟩ = some (.int .i64 limit)) (c2 : ∃ u, w.cell? ⟨b2, 0, none⟩ = some u) (c3 : ∃ u, w.cell? ⟨b3, 0, none⟩ = some u) (f2 : w.frozen? ⟨b2, 0, none⟩ = false) (f3 : w.frozen? ⟨b3, 0, none⟩ = false) (h23 : b2 ≠ b3)
    (h : SB w v l) (hB : Byt l) (T : Tab w) (O : Odr w) :
    Calls Tryz.prog 49 #[.pointer (some ⟨b0, 0, none⟩), .pointer (some ⟨b1, 0, none⟩), .pointer (some ⟨b2, 0, none⟩), .pointer (some ⟨b3, 0, none⟩)] w fun e w' => ∃ E n o, Ifl l limit E n o ∧ ((E = 0 ∧ e = .returned (.tuple #[]) ∧ ∃ w1 a c, Below w.heap.size w w1 ∧ OB w1 w.heap.size (.slice a o.length c) o ∧ w' = (w1.setCell ⟨b2, 0, none⟩ (.slice a o.length c)).setCell ⟨b3, 0, none⟩ (.int .i64 n)) ∨ (E ≠ 0 ∧ Off w E e w')) := by
  have HT := hide T
  have HO := hide O
  have HBG := hide (hbegin h hB limit)
  have hb2 : b2 < w.heap.size := by obtain ⟨u, hu⟩ := c2; exact World.block_lt_of_cell? _ _ hu
  have hb3 : b3 < w.heap.size := by obtain ⟨u, hu⟩ := c3; exact World.block_lt_of_cell? _ _ hu
  have HC2 := hide c2
  have HC3 := hide c3
  have HF2 := hide f2
  have HF3 := hide f3
  have HBW := hide hB
  clear T O h hB c2 c3 f2 f3
  go_enter Tryz.func49, Tryz.ntmps49
  go_wp2_with fail
  refine HBG.out.mono ?_
  rintro e w1 (⟨hdom, g, r, rfl, h1⟩ | ⟨hdom, rfl, h1⟩)
  case inr =>
    have HX := hide h1
    have HI : Hid (Ifl l limit 1 0 []) := .inl ⟨hdom, rfl, rfl, rfl⟩
    clear h1 c0 c1 hdom
    go_wp2
    exact ⟨rfl, 1, 0, [], HI.out, .inr ⟨by decide, rfl, HX.out⟩⟩
  obtain ⟨L, HL⟩ : ∃ L : Nat, Hid (L = limit.toNat) := ⟨_, rfl⟩
  rw [← HL.out] at h1
  have HX1 := hide h1
  have HDM := hide hdom
  have HRD : Hid (Rdg (unpack l) L 0 [] false) := .inl ⟨rfl, fun ps E q o ht => ⟨ps, ht⟩⟩
  have HIF : Hid (∀ E q o, (∃ ps, Txt (unpack l) L 0 [] ps E q o) → (E = 0 → Ifl l limit 0 q o) ∧ (E ≠ 0 → Ifl l limit E 0 [])) := fun E q o ⟨ps, ht⟩ => by
    rw [HL.out] at ht
    exact ⟨fun he => .inr ⟨HDM.out, ps, q, o, by rw [← he]; exact ht, .inl ⟨rfl, rfl, rfl⟩⟩, fun he => .inr ⟨HDM.out, ps, q, o, ht, .inr ⟨he, rfl, rfl⟩⟩⟩
  obtain ⟨row, HROW⟩ : ∃ row, Hid (row = unpack l) := ⟨_, rfl⟩
  rw [← HROW.out] at HX1 HRD HIF
  clear h1 hdom HBG c0 c1
  go_wp2
  go_loopw [] (fun wr => ∃ (p' : Nat) (o' : List Int) (dn : Bool) (ys : List ((Nat → Nat) × Thing)), Hid (TX w wr g r row p' L o' dn ys) ∧ Hid (Rdg row L p' o' dn)) (fun wr => row.length + 1 - (intOf ((wr.cell? ⟨r, 1, none⟩).getD undef)).toNat)
  case atStart => exact ⟨0, [], false, [], HX1, HRD⟩
  case round =>
    obtain ⟨p', o', dn, ys, HX, HR⟩ := hrel
    clear HX1 HRD
    have hms : (intOf ((wr.cell? ⟨r, 1, none⟩).getD undef)).toNat = p' := by rw [HX.out.at]; simp [intOf]
    have HMS := hide hms
    obtain ⟨ax, cx, d0, d1, d3, -, -, -, hat⟩ := HX.out.cells
    clear hms
    cases dn with
    | false =>
      have HBK := hide (hblock HX.out HT.out HO.out)
      clear d0 d1 hat
      go_wp2_with fail
      refine HBK.out.mono ?_
      rintro e w2 ⟨E, f, k, q, o, hblk, ⟨rfl, rfl, zs, h2⟩ | ⟨he, rfl, h2⟩⟩
      · have HX2 := hide h2
        have HR2 := hide (HR.out.step hblk)
        have HLT := hide (hblk.lt HX.out.rd.1 rfl)
        clear h2 hblk d3 HBK
        go_wp2
        go_roundw
        case rel => exact ⟨q, o, f, _, HX2, HR2⟩
        case measure =>
          rw [HMS.out, HX2.out.at]
          simp [intOf]
          have := HLT.out
          omega
      · have HX2 := hide h2
        have HI : Hid (Ifl l limit E 0 []) := by
          rcases HR.out with ⟨_, hr⟩ | ⟨hr, _⟩
          · exact (HIF.out E p' o' (hr [] _ _ _ (Txt.bad hblk he))).2 he
          · cases hr
        clear h2 hblk d3
        go_wp2
        exact ⟨rfl, E, 0, [], HI.out, .inr ⟨he, rfl, HX2.out⟩⟩
    | true =>
      have HI : Hid (Ifl l limit 0 p' o') := by
        rcases HR.out with ⟨hr, _⟩ | ⟨_, hr⟩
        · cases hr
        · exact (HIF.out 0 p' o' hr).1 rfl
      obtain ⟨a5, c5, e1, ho5⟩ := HX.out.own
      rw [d1] at e1
      injection e1 with e1
      injection e1 with e1 _ e3
      subst e1; subst e3
      obtain ⟨M, HM⟩ : ∃ M : Nat, Hid (M = o'.length) := ⟨_, rfl⟩
      rw [← HM.out] at d1
      have HAT : Hid (Calls Tryz.prog 39 #[.pointer (some ⟨r, 0, none⟩)] wr.drew fun e w' => e = .returned (.int .i64 p') ∧ w' = wr.drew) := hat 1
      have HO5 := hide ho5
      have hbl := HX.out.bel
      have HBL := hide hbl
      obtain ⟨u2, hu2⟩ := HC2.out
      obtain ⟨u3, hu3⟩ := HC3.out
      have k2 : wr.cell? ⟨b2, 0, none⟩ = some u2 := by rw [hbl.cell hb2]; exact hu2
      have k3 : wr.cell? ⟨b3, 0, none⟩ = some u3 := by rw [hbl.cell hb3]; exact hu3
      have k4 : wr.frozen? ⟨b2, 0, none⟩ = false := by rw [hbl.frozen hb2]; exact HF2.out
      have k5 : wr.frozen? ⟨b3, 0, none⟩ = false := by rw [hbl.frozen hb3]; exact HF3.out
      have h32 : ¬ b3 = b2 := fun e => h23 e.symm
      clear hat ho5 hbl hu2 hu3
      go_wp2
      go_region_with (go_at_call 39; (with_reducible refine HAT.out.mono ?_); rintro e w7 ⟨rfl, hw7⟩; rw [hw7]; clear hw7)
      all_goals
        go_wp2
        (try simp only [Exit.inBlock, Exit.then])
        refine bodyPost_end (results_none rfl _ _ _) rfl ?_
        refine ⟨0, p', o', HI.out, .inl ⟨rfl, rfl, wr.drew, ax, cx, HBL.out.drew, HO5.out.move (fun k hk => rfl), ?_⟩⟩
        rw [← HM.out]
        rfl
end Go.Proofs.YtmjdpfigkojolaaGreatDoor

namespace Go.Proofs.YtmjdpfigkojolaaGreatDoor
open Go.RowKit Go.Maps
set_option maxRecDepth 20000
set_option linter.unusedVariables false
set_option linter.unusedSimpArgs false

def flr (R : List (Array Value)) : List Value := R.flatMap Array.toList

def ORp (T n : Nat) (w : World) (base : Nat) (v : Value) (R : List (Array Value)) : Prop := (∀ r ∈ R, r.size = n) ∧ w.ownsRow base T n v R.length (flr R)

theorem flr_app (R S : List (Array Value)) : flr (R ++ S) = flr R ++ flr S := by simp [flr]

theorem xown_movep {w w' : World} {base : Nat} {e : TypeId} {size : Nat} {v : Value} {n : Nat} {xs : List Value} (h : w.ownsRow base e size v n xs) (hb : ∀ k, v.ownBlock = some k → w'.heap[k]? = w.heap[k]?) : w'.ownsRow base e size v n xs := by
  refine ⟨h.1, ?_⟩
  rcases h.2 with h2 | ⟨g, cap, cur, rfl, h1, h2, r⟩
  · exact .inl h2
  · exact .inr ⟨g, cap, cur, rfl, h1, (hb g rfl).trans h2, r⟩

theorem ORp.lt {T n : Nat} {w : World} {base : Nat} {v : Value} {R : List (Array Value)} (h : ORp T n w base v R) : ∀ k, v.ownBlock = some k → base ≤ k ∧ k < w.heap.size := World.ownsRow.lt h.2
theorem ORp.move {T n : Nat} {w w' : World} {base : Nat} {v : Value} {R : List (Array Value)} (h : ORp T n w base v R) (hb : ∀ k, v.ownBlock = some k → w'.heap[k]? = w.heap[k]?) : ORp T n w' base v R := ⟨h.1, xown_movep h.2 hb⟩
theorem ORp.below {T n : Nat} {w w' : World} {base B : Nat} {v : Value} {R : List (Array Value)} (h : ORp T n w base v R) (hb : Below B w w') (hB : w.heap.size ≤ B) : ORp T n w' base v R := h.move fun k hk => hb.block k (Nat.lt_of_lt_of_le (h.lt k hk).2 hB)
theorem ORp.alloc {T n : Nat} {w : World} {base : Nat} {v : Value} {R : List (Array Value)} (h : ORp T n w base v R) (o : Obj) : ORp T n (w.alloc o) base v R := h.move fun k hk => Below.heap_alloc w o k (h.lt k hk).2
theorem ORp.base {T n : Nat} {w : World} {base base' : Nat} {v : Value} {R : List (Array Value)} (h : ORp T n w base v R) (hb : base' ≤ base) : ORp T n w base' v R := by
  refine ⟨h.1, h.2.1, ?_⟩
  rcases h.2.2 with h2 | ⟨g, cap, cur, rfl, h1, r⟩
  · exact .inl h2
  · exact .inr ⟨g, cap, cur, rfl, Nat.le_trans hb h1, r⟩
theorem ORp.shape {T n : Nat} {w : World} {base : Nat} {v : Value} {R : List (Array Value)} (h : ORp T n w base v R) : ∃ a c, v = .slice a R.length c ∧ R.length ≤ c ∧ c ≤ 9223372036854775807 := by
  rcases h.2.2 with ⟨rfl, h0⟩ | ⟨g, cap, cur, rfl, _, _, h3, h4, _⟩
  · exact ⟨none, 0, by rw [h0], by omega, by omega⟩
  · unfold maxLen at h4; exact ⟨_, _, rfl, h3, by omega⟩
theorem ORp.nil (T n : Nat) (w : World) (base : Nat) : ORp T n w base (.slice none 0 0) [] := ⟨fun r hr => by simp at hr, World.ownsRow_nil _ _ _ _⟩
theorem wpRowp {w : World} {ops : Array Oper} {rest : List Oper} {o : Oper} {a : Act} {Q : Exit → Act → World → Prop} (hgd : o.guard = none) (s x : Operand) (TS T n bytes : Nat) (z : Value)
    (ho : o.op = .call { callee := .builtin .append, args := #[s, x], argTypes := #[TS, TS] }) (ht : Tryz.prog.underlying TS = some (.slice T))
    (hinf : (Tryz.prog.info? T).map (fun i => (i.zero, i.size, i.bytes)) = some (some z, n, bytes)) (hzs : z.cells.size = n) (hn : 0 < n)
    (base : Nat) (v : Value) (R : List (Array Value)) (r : Array Value) (B c : Nat) (fr : Nat × Nat) (hs : a.eval s = v) (hown : ORp T n w base v R)
    (hx : a.eval x = .slice (some ⟨B, 0, none⟩) 1 c) (hB : w.heap[B]? = some (.cells r T fr)) (hr : r.size = n) (h1 : ∀ u ∈ r.toList, u.oneCell' = true)
    (hlen : R.length < 9007199254740992) (hbytes : (R.length + 1) * bytes ≤ 140737488355328) (hbase : base ≤ w.heap.size)
    (h : ∀ v' w', ORp T n w' base v' (R ++ [r]) → w.grownBy w' v.ownBlock → (v'.ownBlock = v.ownBlock ∨ v'.ownBlock = some w.heap.size) → wpList Tryz.prog ops Q rest (a.put o.dst v') w') : wpList Tryz.prog ops Q (o :: rest) a w := by
  obtain ⟨i0, hi0, hz0, hz1, hz2⟩ := info_parts hinf
  refine wpList_append_own_at _ hgd s x TS ho base T i0 z n bytes ht hi0 hz0 hz1 hz2 hzs hn v R.length (flr R) hs hown.2 ⟨B, 0, none⟩ 1 c r.toList hx (by rw [Array.length_toList, hr, Nat.one_mul]) (World.news_of_block hB) h1 (by unfold maxLen; omega) hbytes hbase fun v' w' g1 g2 _ g4 => h v' w' ⟨?_, ?_⟩ g2 g4
  · intro q hq
    rcases List.mem_append.1 hq with hq | hq
    · exact hown.1 q hq
    · rw [List.mem_singleton.1 hq]; exact hr
  · rw [List.length_append, flr_app]
    simpa [flr] using g1
end Go.Proofs.YtmjdpfigkojolaaGreatDoor

namespace Go.Proofs.YtmjdpfigkojolaaGreatDoor
open Go.RowKit Go.Maps
set_option maxRecDepth 20000
set_option linter.unusedVariables false

def pcq (b : Pc) : Array Value := #[.int .i64 b.kind, .bool b.fin, .int .i64 b.at0, .int .i64 b.at1, .int .i64 b.to0, .int .i64 b.to1]

def tpq (v : Value) (R : List (Array Value)) : Thing :=
  ⟨fun w K => ORp 36 6 w 0 v R ∧ (∀ k, v.ownBlock = some k → K k ≠ 0) ∧ ∀ k, K k ≠ 0 → k < w.heap.size,
   fun h a b => ⟨h.1.move fun k hk => b k (h.2.1 k hk), h.2.1, fun k hk => Nat.lt_of_lt_of_le (h.2.2 k hk) a⟩, fun h => h.2.2⟩

end Go.Proofs.YtmjdpfigkojolaaGreatDoor

namespace Go.Proofs.YtmjdpfigkojolaaGreatDoor
open Go.RowKit Go.Maps
set_option maxRecDepth 20000
set_option linter.unusedVariables false

theorem cpy_pre (d : Nat) : ∀ n out, ∃ s, cpy d n out = out ++ s
  | 0, out => ⟨[], by simp [cpy]⟩
  | n + 1, out => by
    obtain ⟨s, h⟩ := cpy_pre d n (out ++ [out.getD (out.length - d) 0])
    exact ⟨[out.getD (out.length - d) 0] ++ s, by rw [cpy, h, List.append_assoc]⟩

theorem sy1_pre {l d row : List Int} {L p : Nat} {out : List Int} {b : Bool} {q : Nat} {o : List Int} (h : sy1 l d row L p out = (0, b, q, o)) : ∃ s, o = out ++ s := by
  by_cases c0 : syE l row p ≠ 0
  · rw [sy1_bad c0] at h
    injection h with h
    exact absurd h c0
  have c0' : syE l row p = 0 := by omega
  rcases Nat.lt_trichotomy (nxS l row p) 256 with c | c | c
  · rw [sy1_lit c0' c] at h
    by_cases c1 : L < out.length + 1
    · rw [if_pos c1] at h; injection h with h; cases h
    · rw [if_neg c1] at h
      injection h with _ h
      injection h with _ h
      injection h with h1 h2
      exact ⟨_, h2.symm⟩
  · rw [sy1_end c0' c] at h
    injection h with _ h
    injection h with _ h
    injection h with h1 h2
    exact ⟨[], by rw [← h2, List.append_nil]⟩
  · rw [sy1_copy c0' c] at h
    by_cases c1 : lgE (nxS l row p) row (nxP l row p) ≠ 0
    · rw [if_pos c1] at h; injection h with h; exact absurd h c1
    rw [if_neg c1] at h
    by_cases c2 : dtE d row (lgP (nxS l row p) (nxP l row p)) ≠ 0
    · rw [if_pos c2] at h; injection h with h; exact absurd h c2
    rw [if_neg c2] at h
    by_cases c3 : agE L out (lgV (nxS l row p) row (nxP l row p)) (dtV d row (lgP (nxS l row p) (nxP l row p))) ≠ 0
    · rw [if_pos c3] at h; injection h with h; exact absurd h c3
    rw [if_neg c3] at h
    injection h with _ h
    injection h with _ h
    injection h with h1 h2
    obtain ⟨s, hs⟩ := cpy_pre (dtV d row (lgP (nxS l row p) (nxP l row p))) (lgV (nxS l row p) row (nxP l row p)) out
    exact ⟨s, by rw [← h2, hs]⟩
end Go.Proofs.YtmjdpfigkojolaaGreatDoor

namespace Go.Proofs.YtmjdpfigkojolaaGreatDoor
open Go.RowKit Go.Maps
set_option maxRecDepth 20000
set_option linter.unusedVariables false

/-! What Blocks tells, in numbers: the blocks of a text up to the first that is not whole, each with its bytes. -/

theorem Sys.pre {l d row : List Int} {L p : Nat} {out : List Int} {e : Int} {q : Nat} {o : List Int} (h : Sys l d row L p out e q o) : ∃ s, o = out ++ s := by
  induction h with
  | bad h1 h2 => exact ⟨[], by simp⟩
  | fin h1 => exact sy1_pre h1
  | go h1 h2 ih =>
    obtain ⟨s, hs⟩ := sy1_pre h1
    obtain ⟨t, ht⟩ := ih
    exact ⟨s ++ t, by rw [ht, hs, List.append_assoc]⟩

theorem st1_pre {row : List Int} {L p : Nat} {out : List Int} {e : Int} {q : Nat} {o : List Int} (h : st1 row L p out = (e, q, o)) : ∃ s, o = out ++ s := by
  unfold st1 at h
  by_cases c0 : row.length < algn p + 32
  · rw [if_pos c0] at h; injection h with _ h; injection h with _ h; exact ⟨[], by rw [← h, List.append_nil]⟩
  rw [if_neg c0] at h
  by_cases c1 : ahead row (algn p) 16 + ahead row (algn p + 16) 16 ≠ 65535
  · rw [if_pos c1] at h; injection h with _ h; injection h with _ h; exact ⟨[], by rw [← h, List.append_nil]⟩
  rw [if_neg c1] at h
  by_cases c2 : L < out.length + (ahead row (algn p) 16).toNat
  · rw [if_pos c2] at h; injection h with _ h; injection h with _ h; exact ⟨[], by rw [← h, List.append_nil]⟩
  rw [if_neg c2] at h
  by_cases c3 : row.length < algn p + 32 + 8 * (ahead row (algn p) 16).toNat
  · rw [if_pos c3] at h; injection h with _ h; injection h with _ h; exact ⟨[], by rw [← h, List.append_nil]⟩
  rw [if_neg c3] at h
  injection h with _ h
  injection h with _ h
  exact ⟨_, h.symm⟩

theorem Blk.pre {row : List Int} {L p : Nat} {out : List Int} {f : Bool} {k : Int} {q : Nat} {o : List Int} {e : Int} (h : Blk row L p out e f k q o) : ∃ s, o = out ++ s := by
  cases h with
  | short h1 => exact ⟨[], by simp⟩
  | three h1 h2 => exact ⟨[], by simp⟩
  | stored h1 h2 h3 => exact st1_pre h3
  | fixed h1 h2 h3 => exact h3.pre
  | head h1 h2 h3 => exact ⟨[], by simp⟩
  | dyn h1 h2 h3 h4 => exact h4.pre

theorem Blk.kind {row : List Int} {L p : Nat} {out : List Int} {f : Bool} {k : Int} {q : Nat} {o : List Int} {e : Int} (h : Blk row L p out e f k q o) (he : e = 0) : 0 ≤ k ∧ k ≤ 2 := by
  cases h with
  | short h1 => cases he
  | three h1 h2 => cases he
  | stored h1 h2 h3 => omega
  | fixed h1 h2 h3 => omega
  | head h1 h2 h3 => exact absurd he h3
  | dyn h1 h2 h3 h4 => omega

theorem Blk.lt3 {row : List Int} {L p : Nat} {out : List Int} {f : Bool} {k : Int} {q : Nat} {o : List Int} {e : Int} (hb : Bit row) (h : Blk row L p out e f k q o) (he : e = 0) : p + 3 ≤ q := by
  cases h with
  | short h1 => cases he
  | three h1 h2 => cases he
  | stored h1 h2 h3 => subst he; have := st1_lt hb h3; omega
  | fixed h1 h2 h3 => have := h3.lt hb fl_ok he; omega
  | head h1 h2 h3 => exact absurd he h3
  | dyn h1 h2 h3 h4 =>
    have := h4.lt hb (rd_good hb h3).1 he
    have := rd_le h3
    omega

inductive Chn (d : Bool) : Nat → Nat → List Pc → Nat → Nat → Prop
  | nil {a n : Nat} : d = false → Chn d a n [] a n
  | last {a n b z : Nat} {k : Int} : d = true → 0 ≤ k → k ≤ 2 → a + 3 ≤ b → n ≤ z → Chn d a n [⟨k, true, a, b, n, z⟩] b z
  | go {a n q m b z : Nat} {k : Int} {ps : List Pc} : 0 ≤ k → k ≤ 2 → a + 3 ≤ q → n ≤ m → Chn d q m ps b z → Chn d a n (⟨k, false, a, q, n, m⟩ :: ps) b z

theorem Txt.chn {row : List Int} {L p : Nat} {out : List Int} {ps : List Pc} {e : Int} {q : Nat} {o : List Int} (hb : Bit row) (h : Txt row L p out ps e q o) : Chn (e == 0) p out.length ps q o.length := by
  induction h with
  | bad h1 h2 => exact Chn.nil (by simpa using h2)
  | last h1 =>
    have a := h1.lt hb rfl
    have k := h1.kind rfl
    exact Chn.last rfl k.1 k.2 (h1.lt3 hb rfl) (by omega)
  | go h1 h2 ih =>
    have a := h1.lt hb rfl
    have k := h1.kind rfl
    exact Chn.go k.1 k.2 (h1.lt3 hb rfl) (by omega) ih

theorem Txt.pre {row : List Int} {L p : Nat} {out : List Int} {ps : List Pc} {e : Int} {q : Nat} {o : List Int} (h : Txt row L p out ps e q o) : ∃ s, o = out ++ s := by
  induction h with
  | bad h1 h2 => exact ⟨[], by simp⟩
  | last h1 => exact h1.pre
  | go h1 h2 ih =>
    obtain ⟨s, hs⟩ := h1.pre
    obtain ⟨t, ht⟩ := ih
    exact ⟨s ++ t, by rw [ht, hs, List.append_assoc]⟩

theorem Txt.le {row : List Int} {L p : Nat} {out : List Int} {ps : List Pc} {e : Int} {q : Nat} {o : List Int} (hb : Bit row) (h : Txt row L p out ps e q o) : p ≤ row.length → out.length ≤ L → q ≤ row.length ∧ o.length ≤ L := by
  induction h with
  | bad h1 h2 => exact fun a b => ⟨a, b⟩
  | last h1 => intro a b; have := h1.lt hb rfl; omega
  | go h1 h2 ih => intro a b; have := h1.lt hb rfl; exact ih (by omega) (by omega)

def sgb (o : List Int) (x : Pc) : List Int := (o.drop x.to0).take (x.to1 - x.to0)

theorem sg_at {out s t : List Int} {x : Pc} (h0 : x.to0 = out.length) (h1 : x.to1 = (out ++ s).length) : sgb (out ++ s ++ t) x = s := by
  unfold sgb
  rw [h0, h1, List.append_assoc, List.drop_left, List.length_append, Nat.add_sub_cancel_left, List.take_left]

theorem Txt.segs {row : List Int} {L p : Nat} {out : List Int} {ps : List Pc} {e : Int} {q : Nat} {o : List Int} (h : Txt row L p out ps e q o) : out ++ ps.flatMap (sgb o) = o := by
  induction h with
  | bad h1 h2 => simp
  | @last p out k q o h1 =>
    obtain ⟨s, rfl⟩ := h1.pre
    have e : sgb (out ++ s) ⟨k, true, p, q, out.length, (out ++ s).length⟩ = s := by
      have := sg_at (out := out) (s := s) (t := []) (x := ⟨k, true, p, q, out.length, (out ++ s).length⟩) rfl rfl
      rwa [List.append_nil] at this
    rw [List.flatMap_cons, List.flatMap_nil, List.append_nil, e]
  | @go p out k q o ps e q' o' h1 h2 ih =>
    obtain ⟨s, rfl⟩ := h1.pre
    obtain ⟨t, rfl⟩ := h2.pre
    rw [List.flatMap_cons, sg_at (out := out) (s := s) (t := t) (x := ⟨k, false, p, q, out.length, (out ++ s).length⟩) rfl rfl, ← List.append_assoc]
    exact ih

end Go.Proofs.YtmjdpfigkojolaaGreatDoor

namespace Go.Proofs.YtmjdpfigkojolaaGreatDoor
open Go.RowKit Go.Maps
set_option maxRecDepth 20000
set_option linter.unusedVariables false

/-! A text under way beside memory that another one changes between its blocks. -/

def wtake (w : World) (B : Nat) : World := { w with heap := w.heap.extract 0 B }
theorem wtake_size {w : World} {B : Nat} (h : B ≤ w.heap.size) : (wtake w B).heap.size = B := by
  show (w.heap.extract 0 B).size = B
  rw [Array.size_extract]; omega
theorem wtake_at {w : World} {B k : Nat} (hk : k < B) : (wtake w B).heap[k]? = w.heap[k]? := by
  show (w.heap.extract 0 B)[k]? = _
  rw [Array.getElem?_extract]
  by_cases h : k < w.heap.size
  · rw [if_pos (by omega)]; simp
  · rw [if_neg (by omega)]; exact (Array.getElem?_eq_none (by omega)).symm
theorem wtake_below {w : World} {B : Nat} (h : B ≤ w.heap.size) : Below B (wtake w B) w := ⟨rfl, rfl, rfl, by rw [wtake_size h]; exact h, fun k hk => (wtake_at hk).symm⟩
theorem below_wtake {w0 w : World} {B : Nat} (h : Below w0.heap.size w0 w) (h1 : w0.heap.size ≤ B) (h2 : B ≤ w.heap.size) : Below w0.heap.size w0 (wtake w B) :=
  ⟨h.os, h.tape, h.output, by rw [wtake_size h2]; exact h1, fun k hk => (wtake_at (by omega)).trans (h.block k hk)⟩

def tkp (w0 : World) : Thing :=
  ⟨fun w K => w0.heap.size ≤ w.heap.size ∧ (∀ k, K k ≠ 0 → w.heap[k]? = w0.heap[k]?) ∧ ∀ k, K k ≠ 0 → k < w.heap.size,
   fun h a b => ⟨Nat.le_trans h.1 a, fun k hk => (b k hk).trans (h.2.1 k hk), fun k hk => Nat.lt_of_lt_of_le (h.2.2 k hk) a⟩, fun h => h.2.2⟩

theorem tkp_td (w0 : World) (gl : Nat) (l : List Int) : tkp w0 ≠ td gl l := by
  intro e
  have h : (tkp w0).P { w0 with heap := Array.replicate w0.heap.size (.deferred none) } (fun _ => 0) :=
    ⟨by simp, fun k hk => absurd rfl hk, fun k hk => absurd rfl hk⟩
  rw [e] at h
  have hd : Dp { w0 with heap := Array.replicate w0.heap.size (.deferred none) } (fun _ => 0) gl l := h
  obtain ⟨vl, vw, vs, sy, a1, _⟩ := hd.d
  have a2 : (Array.replicate w0.heap.size (Obj.deferred none))[gl]? = _ := a1
  rw [Array.getElem?_replicate] at a2
  split at a2
  · injection a2 with a2; cases a2
  · cases a2

theorem Herd.guest {W w : World} {xs : List ((Nat → Nat) × Thing)} (h : Herd W w xs) {K : Nat → Nat} {x : Thing} (hr : x.P w K) (hu : ∀ k, K k ≠ 0 → W.heap.size ≤ k) (hx : ∀ d, d ∈ xs → ∀ k, d.1 k ≠ 0 → K k = 0) : Herd W w (xs ++ [(K, x)]) := by
  refine ⟨h.bel, fun i d hd => ?_, fun i d hd k hk => ?_, fun i j d e hd he hne k hk => ?_⟩
  · rcases get_snoc hd with hd | ⟨_, rfl⟩
    · exact h.rep i d hd
    · exact hr
  · rcases get_snoc hd with hd | ⟨_, rfl⟩
    · exact h.up i d hd k hk
    · exact hu k hk
  · rcases get_snoc hd with hd | ⟨e1, rfl⟩
    · rcases get_snoc he with he | ⟨e2, rfl⟩
      · exact h.sep i j d e hd he hne k hk
      · exact hx d (List.mem_of_getElem? hd) k hk
    · rcases get_snoc he with he | ⟨e2, rfl⟩
      · by_cases e0 : e.1 k = 0
        · exact e0
        · exact absurd (hx e (List.mem_of_getElem? he) k e0) hk
      · omega

theorem Herd.pickf {W w : World} {xs ys : List ((Nat → Nat) × Thing)} (h : Herd W w xs) (f : Nat → Nat) (hf : ∀ (i : Nat) (d : (Nat → Nat) × Thing), ys[i]? = some d → xs[f i]? = some d) (hi : ∀ i j, i ≠ j → f i ≠ f j) : Herd W w ys :=
  ⟨h.bel, fun i d hd => h.rep _ d (hf i d hd), fun i d hd => h.up _ d (hf i d hd), fun i j d e hd he hij => h.sep _ _ d e (hf i d hd) (hf j e he) (hi i j hij)⟩

def skip (n i : Nat) : Nat := if i < n then i else i + 1
theorem skip_ne (n i j : Nat) (h : i ≠ j) : skip n i ≠ skip n j := by unfold skip; split <;> split <;> omega
theorem skip_no (n i : Nat) : skip n i ≠ n := by unfold skip; split <;> omega
theorem skip_get {α : Type} {xs zs : List α} {z d : α} {i : Nat} (h : (xs ++ zs)[i]? = some d) : (xs ++ z :: zs)[skip xs.length i]? = some d := by
  unfold skip
  by_cases hi : i < xs.length
  · rw [if_pos hi, List.getElem?_append_left hi]
    rw [List.getElem?_append_left hi] at h
    exact h
  · rw [if_neg hi, List.getElem?_append_right (by omega)]
    rw [List.getElem?_append_right (by omega)] at h
    rw [show i + 1 - xs.length = (i - xs.length) + 1 by omega, List.getElem?_cons_succ]
    exact h

structure Mvb (S : Nat → Prop) (w w' : World) : Prop where
  os : w'.os = w.os
  tape : w'.tape = w.tape
  output : w'.output = w.output
  size : w.heap.size ≤ w'.heap.size
  blk : ∀ b, b < w.heap.size → ¬ S b → w'.heap[b]? = w.heap[b]?

def grb (S : Nat → Prop) (w w' : World) (b : Nat) : Prop := S b ∨ (w.heap.size ≤ b ∧ b < w'.heap.size)

abbrev txL (Kt Kr Ko : Nat → Nat) (g r : Nat) (row : List Int) (p L : Nat) (out : List Int) (dn : Bool) (a : Option Addr) (c : Nat) (fl fd : Option Addr) (ys : List ((Nat → Nat) × Thing)) : List ((Nat → Nat) × Thing) :=
  (Kt, tb g (txO r a out.length c L dn fl fd)) :: (Kr, tr r row p) :: (Ko, tl (.slice a out.length c) out) :: ys

def Ist (S : Nat → Prop) (B : Nat) (w : World) (g r : Nat) (row : List Int) (p L : Nat) (out : List Int) (dn : Bool) : Prop :=
  ∃ W Kt Kr Ko a c fl fd ys, W.heap.size = B ∧ Herd W w (txL Kt Kr Ko g r row p L out dn a c fl fd ys) ∧ Fx ys fl fd ∧ (out.length ≤ L ∧ L ≤ 16777216) ∧ ∀ d, d ∈ txL Kt Kr Ko g r row p L out dn a c fl fd ys → ∀ k, d.1 k ≠ 0 → S k

theorem Ist.size {S : Nat → Prop} {B : Nat} {w : World} {g r : Nat} {row : List Int} {p L : Nat} {out : List Int} {dn : Bool} (h : Ist S B w g r row p L out dn) : B ≤ w.heap.size := by
  obtain ⟨W, Kt, Kr, Ko, a, c, fl, fd, ys, hW, HH, -⟩ := h
  have := HH.bel.size; omega

theorem Ist.move {S S' : Nat → Prop} {B : Nat} {w w' : World} {g r : Nat} {row : List Int} {p L : Nat} {out : List Int} {dn : Bool} (h : Ist S B w g r row p L out dn) (hs : w.heap.size ≤ w'.heap.size) (hk : ∀ b, S b → w'.heap[b]? = w.heap[b]?) (hS : ∀ b, S b → S' b) : Ist S' B w' g r row p L out dn := by
  have hB := h.size
  obtain ⟨W, Kt, Kr, Ko, a, c, fl, fd, ys, hW, HH, hf, hL, hSS⟩ := h
  have hz : (wtake w' B).heap.size = B := wtake_size (by omega)
  refine ⟨wtake w' B, Kt, Kr, Ko, a, c, fl, fd, ys, hz, ⟨by rw [hz]; exact wtake_below (by omega), fun i d hd => ?_, fun i d hd k q => ?_, HH.sep⟩, hf, hL, fun d hd k q => hS k (hSS d hd k q)⟩
  · exact d.2.far (HH.rep i d hd) hs fun k q => hk k (hSS d (List.mem_of_getElem? hd) k q)
  · rw [hz, ← hW]; exact HH.up i d hd k q

theorem Ist.fact {S : Nat → Prop} {B : Nat} {w : World} {g r : Nat} {row : List Int} {p L : Nat} {out : List Int} {dn : Bool} (h : Ist S B w g r row p L out dn) : Bit row ∧ p ≤ row.length ∧ row.length ≤ 268435456 ∧ row.length % 8 = 0 ∧ out.length ≤ L ∧ L ≤ 16777216 ∧ S g ∧ B ≤ g ∧
    ∃ a c fl fd, w.heap[g]? = some (txO r a out.length c L dn fl fd) ∧ OB w 0 (.slice a out.length c) out ∧ w.cell? ⟨r, 1, none⟩ = some (.int .i64 p) := by
  obtain ⟨W, Kt, Kr, Ko, a, c, fl, fd, ys, hW, HH, hf, hL, hSS⟩ := h
  have hT : TX W w g r row p L out dn ys := ⟨Kt, Kr, Ko, a, c, fl, fd, HH, hf, hL⟩
  obtain ⟨h1, h2, h3, h4⟩ := hT.rd
  have ht : (tb g (txO r a out.length c L dn fl fd)).P w Kt := HH.rep 0 _ rfl
  exact ⟨h1, h2, h3, h4, hL.1, hL.2, hSS _ (List.mem_cons_self ..) g ht.2.1, by rw [← hW]; exact HH.up 0 _ rfl g ht.2.1, a, c, fl, fd, ht.1, (HH.rep 2 _ rfl).1, hT.at⟩

theorem Fx.drop {ys zs : List ((Nat → Nat) × Thing)} {K : Nat → Nat} {w0 : World} {fl fd : Option Addr} (h : Fx (ys ++ (K, tkp w0) :: zs) fl fd) : Fx (ys ++ zs) fl fd := by
  rcases h with h | ⟨gl, gd, i, j, Kl, Kd, h1, h2, h3, h4⟩
  · exact .inl h
  · have key : ∀ {i : Nat} {Kx : Nat → Nat} {gx : Nat} {l : List Int}, (ys ++ (K, tkp w0) :: zs)[i]? = some (Kx, td gx l) → ∃ i' : Nat, (ys ++ zs)[i']? = some (Kx, td gx l) := by
      intro i Kx gx l hi
      have hm := List.mem_of_getElem? hi
      rcases List.mem_append.1 hm with hm | hm
      · exact List.getElem?_of_mem (List.mem_append.2 (.inl hm))
      · rcases List.mem_cons.1 hm with hm | hm
        · injection hm with _ hm
          exact absurd hm.symm (tkp_td w0 gx l)
        · exact List.getElem?_of_mem (List.mem_append.2 (.inr hm))
    obtain ⟨i', hi'⟩ := key h3
    obtain ⟨j', hj'⟩ := key h4
    exact .inr ⟨gl, gd, i', j', Kl, Kd, h1, h2, hi', hj'⟩

theorem hblockS {S : Nat → Prop} {B : Nat} {V : World} {g r : Nat} {row : List Int} {p L : Nat} {out : List Int} {dn : Bool} (h : Ist S B V g r row p L out dn) (T : Tab (wtake V B)) (O : Odr (wtake V B)) :
    Calls Tryz.prog 25 #[.pointer (some ⟨g, 0, none⟩)] V fun e w' => Mvb S V w' ∧ ∃ E f k q o, Blk row L p out E f k q o ∧ ((E = 0 ∧ e = .returned (.agg #[.int .i64 k, .bool f, .int .i64 p, .int .i64 q, .int .i64 out.length, .int .i64 o.length]) ∧ Ist (grb S V w') B w' g r row q L o f) ∨ (E ≠ 0 ∧ e = flt E)) := by
  have hB := h.size
  obtain ⟨Kk, hKk⟩ : ∃ Kk : Nat → Nat, ∀ k, Kk k ≠ 0 ↔ (B ≤ k ∧ k < V.heap.size ∧ ¬ S k) := by
    classical
    exact ⟨fun k => if B ≤ k ∧ k < V.heap.size ∧ ¬ S k then 1 else 0, fun k => by by_cases q : B ≤ k ∧ k < V.heap.size ∧ ¬ S k <;> simp [q]⟩
  have h0 := h.move (S' := S) (Nat.le_refl _) (fun _ _ => rfl) (fun _ q => q)
  obtain ⟨W, Kt, Kr, Ko, a, c, fl, fd, ys, hW, HH, hf, hL, hSS⟩ := h
  have hz : (wtake V B).heap.size = B := wtake_size hB
  have H1 : Herd (wtake V B) V (txL Kt Kr Ko g r row p L out dn a c fl fd ys) := ⟨by rw [hz]; exact wtake_below hB, HH.rep, fun i d hd k q => by rw [hz, ← hW]; exact HH.up i d hd k q, HH.sep⟩
  have H2 := H1.guest (K := Kk) (x := tkp V) ⟨Nat.le_refl _, fun _ _ => rfl, fun k q => ((hKk k).1 q).2.1⟩ (fun k q => by rw [hz]; exact ((hKk k).1 q).1) (fun d hd k q => by
    by_cases e0 : Kk k = 0
    · exact e0
    · exact absurd (hSS d hd k q) ((hKk k).1 e0).2.2)
  have HT : TX (wtake V B) V g r row p L out dn (ys ++ [(Kk, tkp V)]) := ⟨Kt, Kr, Ko, a, c, fl, fd, H2, hf.app, hL⟩
  have keep : ∀ w', (tkp V).P w' Kk → Below (wtake V B).heap.size (wtake V B) w' → Mvb S V w' := fun w' hk hb => by
    rw [hz] at hb
    refine ⟨hb.os, hb.tape, hb.output, hk.1, fun b h1 h2 => ?_⟩
    by_cases h3 : b < B
    · exact (hb.block b h3).trans (wtake_at h3)
    · exact hk.2.1 b ((hKk b).2 ⟨by omega, h1, h2⟩)
  refine (hblockG HT T O).mono ?_
  rintro e w' ⟨E, f, k, q, o, hblk, ⟨rfl, rfl, zs, Kt', Kr', Ko', a', c', fl', fd', H3, hf3, hL3⟩ | ⟨he, rfl, hb⟩⟩
  · have e1 : txL Kt' Kr' Ko' g r row q L o f a' c' fl' fd' (ys ++ [(Kk, tkp V)] ++ zs) = txL Kt' Kr' Ko' g r row q L o f a' c' fl' fd' ys ++ (Kk, tkp V) :: zs := by simp [txL]
    have H4 : Herd (wtake V B) w' (txL Kt' Kr' Ko' g r row q L o f a' c' fl' fd' ys ++ (Kk, tkp V) :: zs) := by rw [← e1]; exact H3
    have hn : (txL Kt' Kr' Ko' g r row q L o f a' c' fl' fd' ys ++ (Kk, tkp V) :: zs)[(txL Kt' Kr' Ko' g r row q L o f a' c' fl' fd' ys).length]? = some (Kk, tkp V) := by simp
    have hkp : (tkp V).P w' Kk := H4.rep _ _ hn
    have H5 : Herd (wtake V B) w' (txL Kt' Kr' Ko' g r row q L o f a' c' fl' fd' ys ++ zs) := H4.pickf (skip _) (fun i d hd => skip_get hd) (skip_ne _)
    refine ⟨keep w' hkp H4.bel, 0, f, k, q, o, hblk, .inl ⟨rfl, rfl, wtake V B, Kt', Kr', Ko', a', c', fl', fd', ys ++ zs, hz, H5, ?_, hL3, fun d hd m hm => ?_⟩⟩
    · refine Fx.drop (K := Kk) (w0 := V) ?_
      have e2 : ys ++ [(Kk, tkp V)] ++ zs = ys ++ (Kk, tkp V) :: zs := by simp
      rw [← e2]; exact hf3
    · obtain ⟨i, hi⟩ := List.getElem?_of_mem (show d ∈ txL Kt' Kr' Ko' g r row q L o f a' c' fl' fd' ys ++ zs from hd)
      have hs := skip_get (z := (Kk, tkp V)) hi
      have h7 := H4.sep _ _ _ _ hs hn (skip_no _ _) m hm
      have h8 := H4.up _ _ hs m hm
      have h9 := d.2.sup (H4.rep _ _ hs) m hm
      rw [hz] at h8
      by_cases hv : m < V.heap.size
      · left
        by_cases hS : S m
        · exact hS
        · exact absurd h7 ((hKk m).2 ⟨h8, hv, hS⟩)
      · exact .inr ⟨by omega, h9⟩
  · exact ⟨keep w' (hb.2 (Kk, tkp V) (by simp)) hb.1, E, f, k, q, o, hblk, .inr ⟨he, rfl⟩⟩
end Go.Proofs.YtmjdpfigkojolaaGreatDoor

namespace Go.Proofs.YtmjdpfigkojolaaGreatDoor
open Go.RowKit Go.Maps
set_option maxRecDepth 20000
set_option linter.unusedVariables false

/-! What Blocks' loop runs under its catch: one block, into a box. -/

theorem szPc : (Tryz.prog.info? 36).map (·.size) = some 6 := by kernel_rfl

theorem put6_at {w : World} {g : Nat} (h : w.heap[g]? = some (pcO 0 false 0 0 0 0)) (k : Int) (f : Bool) (x y u v : Int) :
    (w.setCells g 0 [.int .i64 k, .bool f, .int .i64 x, .int .i64 y, .int .i64 u, .int .i64 v]).heap[g]? = some (pcO k f x y u v) := by
  simp only [World.setCells]
  rw [heap_setCell_at _ (heap_setCell_at _ (heap_setCell_at _ (heap_setCell_at _ (heap_setCell_at _ (heap_setCell_at _ h)))))]
  rfl

theorem put6_ne (w : World) (g b : Nat) (hb : b ≠ g) (u0 u1 u2 u3 u4 u5 : Value) : (w.setCells g 0 [u0, u1, u2, u3, u4, u5]).heap[b]? = w.heap[b]? := by
  simp only [World.setCells]
  rw [setCell_others _ _ _ _ b hb, setCell_others _ _ _ _ b hb, setCell_others _ _ _ _ b hb, setCell_others _ _ _ _ b hb, setCell_others _ _ _ _ b hb, setCell_others _ _ _ _ b hb]

theorem put6_size (w : World) (g : Nat) (u0 u1 u2 u3 u4 u5 : Value) : (w.setCells g 0 [u0, u1, u2, u3, u4, u5]).heap.size = w.heap.size := by
  simp only [World.setCells]
  rw [size_setCell, size_setCell, size_setCell, size_setCell, size_setCell, size_setCell]

structure Wrt (g : Nat) (o : Obj) (w w' : World) : Prop where
  os : w'.os = w.os
  tape : w'.tape = w.tape
  output : w'.output = w.output
  size : w'.heap.size = w.heap.size
  held : w'.heap[g]? = some o
  ne : ∀ b, b ≠ g → w'.heap[b]? = w.heap[b]?

theorem Wrt.at {g : Nat} {o : Obj} {w w' : World} (h : Wrt g o w w') : w'.heap[g]? = some o := h.held

theorem set_same (w : World) (g k : Nat) (u : Value) : (w.setCell ⟨g, k, none⟩ u).os = w.os ∧ (w.setCell ⟨g, k, none⟩ u).tape = w.tape ∧ (w.setCell ⟨g, k, none⟩ u).output = w.output := ⟨rfl, rfl, rfl⟩

theorem put6_wrt {w : World} {g : Nat} (h : w.heap[g]? = some (pcO 0 false 0 0 0 0)) (k : Int) (f : Bool) (x y u v : Int) :
    Wrt g (pcO k f x y u v) w (w.setCells g 0 [.int .i64 k, .bool f, .int .i64 x, .int .i64 y, .int .i64 u, .int .i64 v]) := by
  have h1 := put6_size w g (.int .i64 k) (.bool f) (.int .i64 x) (.int .i64 y) (.int .i64 u) (.int .i64 v)
  have h2 := put6_at h k f x y u v
  have h3 : ∀ b, b ≠ g → _ := fun b hb => put6_ne w g b hb (.int .i64 k) (.bool f) (.int .i64 x) (.int .i64 y) (.int .i64 u) (.int .i64 v)
  have h4 : (w.setCells g 0 [.int .i64 k, .bool f, .int .i64 x, .int .i64 y, .int .i64 u, .int .i64 v]).os = w.os ∧ (w.setCells g 0 [.int .i64 k, .bool f, .int .i64 x, .int .i64 y, .int .i64 u, .int .i64 v]).tape = w.tape ∧ (w.setCells g 0 [.int .i64 k, .bool f, .int .i64 x, .int .i64 y, .int .i64 u, .int .i64 v]).output = w.output := by
    simp only [World.setCells]
    refine ⟨?_, ?_, ?_⟩
    · rw [(set_same _ _ _ _).1, (set_same _ _ _ _).1, (set_same _ _ _ _).1, (set_same _ _ _ _).1, (set_same _ _ _ _).1, (set_same _ _ _ _).1]
    · rw [(set_same _ _ _ _).2.1, (set_same _ _ _ _).2.1, (set_same _ _ _ _).2.1, (set_same _ _ _ _).2.1, (set_same _ _ _ _).2.1, (set_same _ _ _ _).2.1]
    · rw [(set_same _ _ _ _).2.2, (set_same _ _ _ _).2.2, (set_same _ _ _ _).2.2, (set_same _ _ _ _).2.2, (set_same _ _ _ _).2.2, (set_same _ _ _ _).2.2]
  exact ⟨h4.1, h4.2.1, h4.2.2, h1, h2, h3⟩

theorem wpList_storePb {ops : Array Oper} {rest : List Oper} {op : Oper} {a : Act} {w : World} {Q : Exit → Act → World → Prop} (hgd : op.guard = none) (x y : Operand) (ho : op.op = .store 36 x y) (g : Nat) (k : Int) (f : Bool) (p q n m : Int) (hx : a.eval x = .pointer (some ⟨g, 0, none⟩))
    (hy : a.eval y = .agg #[.int .i64 k, .bool f, .int .i64 p, .int .i64 q, .int .i64 n, .int .i64 m]) (hB : w.heap[g]? = some (pcO 0 false 0 0 0 0))
    (hK : ∀ w', Wrt g (pcO k f p q n m) w w' → wpList Tryz.prog ops Q rest (a.put op.dst undef) w') : wpList Tryz.prog ops Q (op :: rest) a w := by
  have hw := put6_wrt hB k f p q n m
  have hk := hK _ hw
  have h1 : (#[.int .i64 k, .bool f, .int .i64 p, .int .i64 q, .int .i64 n, .int .i64 m] : Array Value).all (·.oneCell') = true := by simp [Value.oneCell']
  clear hK hw
  refine wpList_store_mid hgd 36 x y ho g 0 #[.int .i64 k, .bool f, .int .i64 p, .int .i64 q, .int .i64 n, .int .i64 m] hx hy ?_ szPc h1 hk
  clear hk h1 hx hy ho
  obtain ⟨c0, c1, c2, c3, c4, c5, hf⟩ := pc_cells hB
  intro j hj
  have hj6 : j < 6 := hj
  rw [Nat.zero_add]
  refine ⟨?_, hf j⟩
  match j, hj6 with
  | 0, _ => rw [c0]; rfl
  | 1, _ => rw [c1]; rfl
  | 2, _ => rw [c2]; rfl
  | 3, _ => rw [c3]; rfl
  | 4, _ => rw [c4]; rfl
  | 5, _ => rw [c5]; rfl

theorem Mvb.trans {S : Nat → Prop} {w1 w2 w3 : World} (h : Mvb S w1 w2) (k : Mvb S w2 w3) : Mvb S w1 w3 :=
  ⟨k.os.trans h.os, k.tape.trans h.tape, k.output.trans h.output, Nat.le_trans h.size k.size, fun b hb hS => (k.blk b (Nat.lt_of_lt_of_le hb h.size) hS).trans (h.blk b hb hS)⟩
theorem Mvb.mono {S S' : Nat → Prop} {w1 w2 : World} (h : Mvb S w1 w2) (hS : ∀ b, b < w1.heap.size → S b → S' b) : Mvb S' w1 w2 :=
  ⟨h.os, h.tape, h.output, h.size, fun b hb q => h.blk b hb fun e => q (hS b hb e)⟩
theorem Mvb.of {S : Nat → Prop} {w1 w2 : World} (h : Below w1.heap.size w1 w2) : Mvb S w1 w2 := ⟨h.os, h.tape, h.output, h.size, fun b hb _ => h.block b hb⟩
theorem Wrt.mvb {g : Nat} {o : Obj} {w w' : World} (h : Wrt g o w w') {S : Nat → Prop} (hg : S g) : Mvb S w w' := ⟨h.os, h.tape, h.output, by rw [h.size]; exact Nat.le_refl _, fun b _ hS => h.ne b fun e => hS (e ▸ hg)⟩

def Gone (S : Nat → Prop) (B pB : Nat) (V w' : World) (g r : Nat) (row : List Int) (p L : Nat) (out : List Int) (f : Bool) (k : Int) (q : Nat) (o : List Int) : Prop :=
  ∃ S', Ist S' B w' g r row q L o f ∧ (∀ b, S' b → S b ∨ (V.heap.size ≤ b ∧ b < w'.heap.size)) ∧ w'.heap[pB]? = some (pcO k f p q out.length o.length) ∧ Mvb (fun b => S b ∨ b = pB) V w' ∧ ¬ S' pB

def One (S : Nat → Prop) (B pB : Nat) (V : World) (g r : Nat) (row : List Int) (p L : Nat) (out : List Int) (e : Ending) (w' : World) : Prop :=
  ∃ E f k q o, Blk row L p out E f k q o ∧ ((E = 0 ∧ e = .returned (.tuple #[]) ∧ Gone S B pB V w' g r row p L out f k q o) ∨ (E ≠ 0 ∧ e = flt E ∧ Mvb S V w'))

set_option maxHeartbeats 2000000 in
theorem hblk21 {S : Nat → Prop} {B tB pB : Nat} {V : World} {g r : Nat} {row : List Int} {p L : Nat} {out : List Int} {dn : Bool} (h : Ist S B V g r row p L out dn) (T : Tab (wtake V B)) (O : Odr (wtake V B))
    (ht : V.heap[tB]? = some (.cells #[.pointer (some ⟨g, 0, none⟩)] 50 (0, 0))) (hp : V.heap[pB]? = some (pcO 0 false 0 0 0 0)) (h1 : ¬ S tB) (h2 : ¬ S pB) :
    Calls Tryz.prog 47 #[.pointer (some ⟨tB, 0, none⟩), .pointer (some ⟨pB, 0, none⟩)] V (One S B pB V g r row p L out) := by
  have HB := hide (hblockS h T O)
  have c0 : V.cell? ⟨tB, 0, none⟩ = some (.pointer (some ⟨g, 0, none⟩)) := by unfold World.cell?; rw [ht]; rfl
  have HP := hide hp
  have H2 := hide h2
  have hpz := (Array.getElem?_eq_some_iff.1 hp).1
  have HZ := hide hpz
  clear h T O ht hp h1 h2 hpz
  go_enter Tryz.func47, Tryz.ntmps47
  go_wp2_with fail
  refine HB.out.mono ?_
  rintro e w1 ⟨hm, E, f, k, q, o, hblk, ⟨rfl, rfl, hI⟩ | ⟨he, rfl⟩⟩
  · have HM := hide hm
    have HI := hide hI
    have HK := hide hblk
    have HP1 : Hid (w1.heap[pB]? = some (pcO 0 false 0 0 0 0)) := (hm.blk pB HZ.out H2.out).trans HP.out
    obtain ⟨N, HN⟩ : ∃ N : Int, Hid (N = (out.length : Int)) := ⟨_, rfl⟩
    obtain ⟨M, HM2⟩ : ∃ M : Int, Hid (M = (o.length : Int)) := ⟨_, rfl⟩
    obtain ⟨P, HPP⟩ : ∃ P : Int, Hid (P = (p : Int)) := ⟨_, rfl⟩
    obtain ⟨R, HRR⟩ : ∃ R : Int, Hid (R = (q : Int)) := ⟨_, rfl⟩
    rw [← HN.out, ← HM2.out, ← HPP.out, ← HRR.out]
    clear hm hI hblk HB c0
    go_wp2_with (refine wpList_storePb rfl _ _ rfl pB k f P R N M rfl rfl HP1.out ?_; intro wn HW)
    have HW2 := hide HW
    clear HW
    go_wp2
    refine bodyPost_end (results_none rfl _ _ _) rfl ?_
    have hn : ¬ grb S V w1 pB := fun e => by
      rcases e with e | e
      · exact H2.out e
      · have := HZ.out; omega
    refine ⟨0, f, k, q, o, HK.out, .inl ⟨rfl, rfl, grb S V w1, HI.out.move (by rw [HW2.out.size]; exact Nat.le_refl _) (fun b hb => HW2.out.ne b fun e => hn (e ▸ hb)) (fun _ q => q), fun b hb => ?_, ?_, ?_, hn⟩⟩
    · rcases hb with hb | hb
      · exact .inl hb
      · exact .inr ⟨hb.1, by rw [HW2.out.size]; exact hb.2⟩
    · rw [HW2.out.at, HN.out, HM2.out, HPP.out, HRR.out]
    · exact (HM.out.mono fun b _ e => .inl e).trans (HW2.out.mvb (.inr rfl))
  · have HM := hide hm
    have HK := hide hblk
    clear hm hblk HB c0
    go_wp2
    exact ⟨rfl, E, f, k, q, o, HK.out, .inr ⟨he, rfl, HM.out⟩⟩

theorem Gone.later {S : Nat → Prop} {B pB : Nat} {V V' w w' : World} {g r : Nat} {row : List Int} {p L : Nat} {out : List Int} {f : Bool} {k : Int} {q : Nat} {o : List Int} {b : Nat} {x : Obj} (h : Gone S B pB V w g r row p L out f k q o) (hV : V'.heap.size ≤ V.heap.size) (hVV : Mvb S V' V) (hS : ∀ c, S c → c < V'.heap.size) (hp : pB < V'.heap.size)
    (hb : V'.heap.size ≤ b) (hbV : b < V.heap.size) (hW : Wrt b x w w') : Gone S B pB V' w' g r row p L out f k q o := by
  obtain ⟨S', h1, h2, h3, h4, h5⟩ := h
  have hbn : ¬ S' b := fun e => by
    rcases h2 b e with e | e
    · have := hS b e; omega
    · omega
  refine ⟨S', h1.move (by rw [hW.size]; exact Nat.le_refl _) (fun c hc => hW.ne c fun e => hbn (e ▸ hc)) (fun _ q => q), fun c hc => ?_, (hW.ne pB (by omega)).trans h3, ?_, h5⟩
  · rcases h2 c hc with e | e
    · exact .inl e
    · exact .inr ⟨by omega, by rw [hW.size]; exact e.2⟩
  · have a := (hVV.mono (S' := fun c => S c ∨ c = pB) fun c _ e => .inl e).trans h4
    exact ⟨hW.os.trans a.os, hW.tape.trans a.tape, hW.output.trans a.output, by rw [hW.size]; exact a.size, fun c hc hn => (hW.ne c (by omega)).trans (a.blk c hc hn)⟩

theorem wrt_set {w : World} {b : Nat} {z : Value} {t : TypeId} (h : w.heap[b]? = some (.cells #[z] t (0, 0))) (u : Value) : Wrt b (.cells #[u] t (0, 0)) w (w.setCell ⟨b, 0, none⟩ u) :=
  ⟨rfl, rfl, rfl, size_setCell _ _ _, by rw [heap_setCell_at _ h]; rfl, fun c hc => setCell_others _ _ _ _ c hc⟩

theorem Gone.cell {S : Nat → Prop} {B pB : Nat} {V w : World} {g r : Nat} {row : List Int} {p L : Nat} {out : List Int} {f : Bool} {k : Int} {q : Nat} {o : List Int} (h : Gone S B pB V w g r row p L out f k q o) {b : Nat} {x : Obj} (hb : V.heap[b]? = some x) (hS : ¬ S b) (hp : b ≠ pB) : w.heap[b]? = some x := by
  obtain ⟨S', h1, h2, h3, h4, h5⟩ := h
  exact (h4.blk b (Array.getElem?_eq_some_iff.1 hb).1 (fun e => by rcases e with e | e; exact hS e; exact hp e)).trans hb

set_option maxHeartbeats 2000000 in
theorem hcaughtB {S : Nat → Prop} {B tB pB : Nat} {V : World} {g r : Nat} {row : List Int} {p L : Nat} {out : List Int} {dn : Bool} (h : Ist S B V g r row p L out dn) (T : Tab (wtake V B)) (O : Odr (wtake V B)) (hS : ∀ b, S b → b < V.heap.size)
    (ht : V.heap[tB]? = some (.cells #[.pointer (some ⟨g, 0, none⟩)] 50 (0, 0))) (hp : V.heap[pB]? = some (pcO 0 false 0 0 0 0)) (h1 : ¬ S tB) (h2 : ¬ S pB) :
    Calls Tryz.prog 22 #[.func (.func 47) #[] #[.pointer (some ⟨tB, 0, none⟩), .pointer (some ⟨pB, 0, none⟩)]] V fun e w' => ∃ E f k q o, Blk row L p out E f k q o ∧ e = .returned (.int .i64 E) ∧ ((E = 0 ∧ Gone S B pB V w' g r row p L out f k q o) ∨ (E ≠ 0 ∧ Mvb S V w')) := by
  obtain ⟨V1, hV1⟩ : ∃ V1, V.alloc (.cells #[.int .i64 0] 25) = V1 := ⟨_, rfl⟩
  have hb1 : Below V.heap.size V V1 := by rw [← hV1]; exact (Below.refl _ _).alloc (Nat.le_refl _) _
  have hz1 : V1.heap.size = V.heap.size + 1 := by rw [← hV1]; simp
  have he1 : V1.heap[V.heap.size]? = some (.cells #[.int .i64 0] 25 (0, 0)) := by rw [← hV1]; exact heap_alloc_new _ _
  have htz := (Array.getElem?_eq_some_iff.1 ht).1
  have hpz := (Array.getElem?_eq_some_iff.1 hp).1
  have hBV := h.size
  have hI : Ist S B V1 g r row p L out dn := h.move hb1.size (fun b hb => hb1.block b (hS b hb)) (fun _ q => q)
  have hwt : wtake V1 B = wtake V B ∨ Below (wtake V B).heap.size (wtake V B) (wtake V1 B) := .inr (by
    have e := wtake_size hBV
    rw [e]
    exact ⟨hb1.os, hb1.tape, hb1.output, by have := wtake_size (w := V1) (B := B) (by omega); omega, fun k hk => (wtake_at hk).trans ((hb1.block k (by omega)).trans (wtake_at hk).symm)⟩)
  have hw2 : Below (wtake V B).heap.size (wtake V B) (wtake V1 B) := by
    rcases hwt with e | e
    · rw [e]; exact Below.refl _ _
    · exact e
  have HC := hblk21 hI (T.mono hw2) (O.mono hw2) ((hb1.block tB htz).trans ht) ((hb1.block pB hpz).trans hp) h1 h2
  have hnS : ¬ S V.heap.size := fun e => by have := hS _ e; omega
  refine (hcaught V 47 _ (fun w => Tryz.call47 _ w)
    (fun w' => ∃ f k q o, Blk row L p out 0 f k q o ∧ Gone S B pB V1 w' g r row p L out f k q o)
    (fun E w' => ∃ f k q o, Blk row L p out E f k q o ∧ E ≠ 0 ∧ Mvb S V1 w') ?_ ?_ ?_).mono ?_
  · rw [hV1]
    refine HC.mono ?_
    rintro e w' ⟨E, f, k, q, o, hb, ⟨rfl, rfl, hg⟩ | ⟨he, rfl, hm⟩⟩
    · exact .inl ⟨rfl, f, k, q, o, hb, hg⟩
    · exact .inr ⟨E, rfl, f, k, q, o, hb, he, hm⟩
  · rintro w' ⟨f, k, q, o, hb, hg⟩
    have hx := hg.cell he1 hnS (by omega)
    refine ⟨by unfold World.cell?; rw [hx]; rfl, by unfold World.frozen?; rw [hx]; rfl, (Array.getElem?_eq_some_iff.1 hx).1⟩
  · rintro E w' ⟨f, k, q, o, hb, he, hm⟩
    have hx := (hm.blk _ (by omega) hnS).trans he1
    refine ⟨by unfold World.cell?; rw [hx]; rfl, by unfold World.frozen?; rw [hx]; rfl, (Array.getElem?_eq_some_iff.1 hx).1⟩
  · rintro e w' (⟨rfl, w1, ⟨f, k, q, o, hb, hg⟩, rfl⟩ | ⟨E, w1, rfl, ⟨f, k, q, o, hb, he, hm⟩, rfl⟩)
    · have hx := hg.cell he1 hnS (by omega)
      exact ⟨0, f, k, q, o, hb, rfl, .inl ⟨rfl, hg.later (by omega) (Mvb.of hb1) hS hpz (Nat.le_refl _) (by omega) (wrt_set hx _)⟩⟩
    · refine ⟨E, f, k, q, o, hb, rfl, .inr ⟨he, ?_⟩⟩
      have hx := (hm.blk _ (by omega) hnS).trans he1
      have a := (Mvb.of (S := S) hb1).trans hm
      have hW := wrt_set hx (.int .i64 E)
      have hs := hm.size
      have b2 := (Below.refl (w1.setCell ⟨V.heap.size, 0, none⟩ (.int .i64 E)).heap.size (w1.setCell ⟨V.heap.size, 0, none⟩ (.int .i64 E))).alloc (Nat.le_refl _) (.cells #[.int .i64 E] 83)
      exact ⟨a.os, a.tape, a.output, by have := b2.size; rw [hW.size] at this; omega, fun c hc hn => (b2.block c (by rw [hW.size]; omega)).trans ((hW.ne c (by omega)).trans (a.blk c hc hn))⟩
end Go.Proofs.YtmjdpfigkojolaaGreatDoor

namespace Go.Proofs.YtmjdpfigkojolaaGreatDoor
open Go.RowKit Go.Maps
set_option maxRecDepth 20000
set_option linter.unusedVariables false

end Go.Proofs.YtmjdpfigkojolaaGreatDoor

