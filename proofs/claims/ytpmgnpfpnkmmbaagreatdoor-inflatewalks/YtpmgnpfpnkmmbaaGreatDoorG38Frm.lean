import Derived.Test.YtpmgnpfpnkmmbaaGreatDoorG12Ifb
import Derived.Defers
import Derived.Recover
import Derived.Test.YtpmgnpfpnkmmbaaGreatDoorG37Ifj
import Derived.Test.YtpmgnpfpnkmmbaaGreatDoorG15Qr2
import Derived.Test.YtpmgnpfpnkmmbaaGreatDoorG36Vak
import Derived.OwnWalk
import Derived.BigQuiet
import Derived.Deep.QuietTactic
import Derived.Test.YtpmgnpfpnkmmbaaGreatDoorG00Ints
namespace Go.Proofs.YtpmgnpfpnkmmbaaGreatDoor
open Go.RowKit Go.Maps
set_option maxRecDepth 20000
set_option linter.unusedVariables false

/-- The deferred function, where nothing was given up. -/
theorem cau_idle (p : Addr) (w : World) :
    CallsD Tryz.prog 29 #[.pointer (some p)] .returning w fun e u' w' => e = .returned (.tuple #[]) ∧ u' = .returning ∧ w' = w := by
  refine callsD_of_wpS Tryz.func29 rfl fun c₀ cs hu => ?_
  apply wpS_seq
  apply wpS_region
  simp [wpOpsS, go_sem, recoverD, hu, Tryz.ntmps29, Exit.thenS]
  refine wpS_of_wp ?_
  have hn : ∀ w : World, (binOp BinOp.eql 20 .nilIface .nilIface).run Tryz.prog w = .ok (.bool true) w := fun _ => by kernel_rfl
  go_wp2
  cases c₀
  simp_all [bodyPostS, results, Tryz.results29]

set_option maxHeartbeats 2000000 in
theorem cau_fault (b : Nat) (E x : Int) (older : List PanicEntry) (w : World) (hc : w.cell? ⟨b, 0, none⟩ = some (.int .i64 x)) (hz : w.frozen? ⟨b, 0, none⟩ = false) (hb : b < w.heap.size) :
    CallsD Tryz.prog 29 #[.pointer (some ⟨b, 0, none⟩)] (.panicking ({ v := .iface 64 (.agg #[.int .i64 E]), recovered := false } :: older)) w fun e u' w' =>
      e = .returned (.tuple #[]) ∧ u' = .panicking ({ v := .iface 64 (.agg #[.int .i64 E]), recovered := true } :: older) ∧ w' = (w.setCell ⟨b, 0, none⟩ (.int .i64 E)).alloc (.cells #[.int .i64 E] 64) := by
  refine callsD_of_wpS Tryz.func29 rfl fun c₀ cs hu => ?_
  apply wpS_seq
  apply wpS_region
  simp [wpOpsS, go_sem, recoverD, hu, Tryz.ntmps29, Exit.thenS]
  refine wpS_of_wp ?_
  have hta : ∀ w : World, (Instr.typeAssert (.iface 64 (.agg #[.int .i64 E])) 20 64 true).run Tryz.prog w = .ok (.tuple #[.agg #[.int .i64 E], .bool true]) w := fun _ => by kernel_rfl
  have hc1 : (w.alloc (.cells #[.int .i64 E] 64)).cell? ⟨b, 0, none⟩ = some (.int .i64 x) := by rw [((Below.refl w.heap.size w).alloc (Nat.le_refl _) _).cell hb]; exact hc
  have hz1 : (w.alloc (.cells #[.int .i64 E] 64)).frozen? ⟨b, 0, none⟩ = false := by
    rw [((Below.refl w.heap.size w).alloc (Nat.le_refl _) _).frozen hb]; exact hz
  have hne : ¬ b = w.heap.size := by omega
  have hne2 : ¬ w.heap.size = b := by omega
  go_wp2
  cases c₀
  simp_all [bodyPostS, results, Tryz.results29]

/-- What is run is caught: it ends, or it is given up with an error. -/
theorem hcaught (w : World) (fid : Nat) (caps : Array Value) (hcf : ∀ w : World, (callFunc fid caps).run Tryz.prog w = .ok (.enter fid caps) w) (R : World → Prop) (R' : Int → World → Prop)
    (hC : Calls Tryz.prog fid caps (w.alloc (.cells #[.int .i64 0] 25)) fun e w' => (e = .returned (.tuple #[]) ∧ R w') ∨ ∃ E, e = flt E ∧ R' E w')
    (h1 : ∀ w', R w' → w'.cell? ⟨w.heap.size, 0, none⟩ = some (.int .i64 0) ∧ w'.frozen? ⟨w.heap.size, 0, none⟩ = false ∧ w.heap.size < w'.heap.size)
    (h2 : ∀ E w', R' E w' → w'.cell? ⟨w.heap.size, 0, none⟩ = some (.int .i64 0) ∧ w'.frozen? ⟨w.heap.size, 0, none⟩ = false ∧ w.heap.size < w'.heap.size) :
    Calls Tryz.prog 21 #[.func (.func fid) #[] caps] w fun e w' => (e = .returned (.int .i64 0) ∧ ∃ w1, R w1 ∧ w' = w1.setCell ⟨w.heap.size, 0, none⟩ (.int .i64 0)) ∨ ∃ E w1, e = .returned (.int .i64 E) ∧ R' E w1 ∧ w' = (w1.setCell ⟨w.heap.size, 0, none⟩ (.int .i64 E)).alloc (.cells #[.int .i64 E] 64) := by
  have hmf : ∀ (fn : Fn) (first cap : Array Value) (w : World), (Instr.makeFunc fn first cap).run Tryz.prog w = .ok (.func fn first cap) w := fun _ _ _ _ => rfl
  have HC := hide hC
  clear hC
  go_enter_defers Tryz.func21, Tryz.ntmps21
  go_wp2_with fail
  refine HC.out.mono ?_
  rintro e w1 (⟨rfl, hR⟩ | ⟨E, rfl, hR⟩)
  · obtain ⟨a1, a2, a3⟩ := h1 _ hR
    have HR := hide hR
    have b1 : (w1.setCell ⟨w.heap.size, 0, none⟩ (.int .i64 0)).cell? ⟨w.heap.size, 0, none⟩ = some (.int .i64 0) := World.cell?_setCell_same _ _ _ a1
    clear hR
    go_wp2
    refine leaves_cons (f := 29) (args := #[.pointer (some ⟨w.heap.size, 0, none⟩)]) (by simp) (by simp [go_sem]) ?_
    refine (cau_idle ⟨w.heap.size, 0, none⟩ _).mono ?_
    rintro e u' w'' ⟨rfl, rfl, rfl⟩
    refine ⟨.int .i64 0, by simp [results, Tryz.results21, go_sem, b1], .inl ⟨rfl, w1, HR.out, rfl⟩⟩
  · obtain ⟨a1, a2, a3⟩ := h2 _ _ hR
    have HR := hide hR
    have b1 : (w1.setCell ⟨w.heap.size, 0, none⟩ (.int .i64 E)).cell? ⟨w.heap.size, 0, none⟩ = some (.int .i64 E) := World.cell?_setCell_same _ _ _ a1
    have b2 : ((w1.setCell ⟨w.heap.size, 0, none⟩ (.int .i64 E)).alloc (.cells #[.int .i64 E] 64)).cell? ⟨w.heap.size, 0, none⟩ = some (.int .i64 E) := by
      rw [((Below.refl (w1.setCell ⟨w.heap.size, 0, none⟩ (.int .i64 E)).heap.size (w1.setCell ⟨w.heap.size, 0, none⟩ (.int .i64 E))).alloc (Nat.le_refl _) _).cell (by rw [size_setCell]; exact a3)]
      exact b1
    clear hR
    go_wp2
    refine leaves_cons (f := 29) (args := #[.pointer (some ⟨w.heap.size, 0, none⟩)]) (by simp) (by simp [go_sem]) ?_
    refine (cau_fault w.heap.size E 0 [] _ a1 a2 a3).mono ?_
    rintro e u' w'' ⟨rfl, rfl, rfl⟩
    refine ⟨.int .i64 E, by simp [results, Tryz.results21, go_sem, b2], .inr ⟨E, w1, rfl, HR.out, rfl⟩⟩
end Go.Proofs.YtpmgnpfpnkmmbaaGreatDoor

namespace Go.Proofs.YtpmgnpfpnkmmbaaGreatDoor
open Go.RowKit Go.Maps
set_option maxRecDepth 20000
set_option linter.unusedVariables false

theorem hmayBe (a : Option Addr) (n c : Nat) (limit : Int) (w : World) (b : Bool) (hb : decide (n ≤ 33554432 ∧ 0 ≤ limit ∧ limit ≤ 16777216) = b) :
    Calls Tryz.prog 30 #[.slice a n c, .int .i64 limit] w fun e w' => e = .returned (.bool b) ∧ w' = w := by
  go_enter Tryz.func30, Tryz.ntmps30
  by_cases c0 : n ≤ 33554432
  · have h0 : (n : Int) ≤ 33554432 := by omega
    by_cases c1 : 0 ≤ limit
    · by_cases c2 : limit ≤ 16777216
      · obtain rfl : b = true := by rw [← hb]; exact decide_eq_true ⟨c0, c1, c2⟩
        clear hb
        go_wp2
        go_ret
        exact ⟨rfl, rfl⟩
      · obtain rfl : b = false := by rw [← hb]; exact decide_eq_false (by omega)
        clear hb
        go_wp2
        go_ret
        exact ⟨rfl, rfl⟩
    · obtain rfl : b = false := by rw [← hb]; exact decide_eq_false (by omega)
      clear hb
      go_wp2
      go_ret
      exact ⟨rfl, rfl⟩
  · have h0 : ¬ ((n : Int) ≤ 33554432) := by omega
    obtain rfl : b = false := by rw [← hb]; exact decide_eq_false (by omega)
    clear hb
    go_wp2
    go_ret
    exact ⟨rfl, rfl⟩

theorem Herd.swap {W w : World} {a b : (Nat → Nat) × Thing} (h : Herd W w [a, b]) : Herd W w [b, a] := by
  have f : ∀ (i : Nat) (d : (Nat → Nat) × Thing), [b, a][i]? = some d → ([a, b] : List ((Nat → Nat) × Thing))[1 - i]? = some d ∧ i < 2 := fun i d hd => by
    match i with
    | 0 => exact ⟨hd, by omega⟩
    | 1 => exact ⟨hd, by omega⟩
    | n + 2 => simp at hd
  exact ⟨h.bel, fun i d hd => h.rep _ d (f i d hd).1, fun i d hd => h.up _ d (f i d hd).1, fun i j d e hd he hij => h.sep _ _ d e (f i d hd).1 (f j e he).1 (by have := (f i d hd).2; have := (f j e he).2; omega)⟩

set_option maxHeartbeats 1000000 in
theorem hbegin {w : World} {v : Value} {l : List Int} (h : SB w v l) (hB : Byt l) (limit : Int) :
    Calls Tryz.prog 23 #[v, .int .i64 limit] w fun e w' => ((l.length ≤ 33554432 ∧ 0 ≤ limit ∧ limit ≤ 16777216) ∧ ∃ g r, e = .returned (.pointer (some ⟨g, 0, none⟩)) ∧ TX w w' g r (unpack l) 0 limit.toNat [] false []) ∨ (¬ (l.length ≤ 33554432 ∧ 0 ≤ limit ∧ limit ≤ 16777216) ∧ Off w 1 e w') := by
  have HS := hide h
  obtain ⟨a, c, rfl, -⟩ := h
  have HM := hide (hmayBe a l.length c limit w _ rfl)
  have HB := hide hB
  clear hB
  go_enter Tryz.func23, Tryz.ntmps23
  go_wp2_with fail
  refine HM.out.mono ?_
  rintro e w1 ⟨rfl, hw1⟩
  subst hw1
  by_cases hc : l.length ≤ 33554432 ∧ 0 ≤ limit ∧ limit ≤ 16777216
  · rw [decide_eq_true hc]
    have HC := hide hc
    have HR := hide (hnewR (Herd.nil w1) _ l HS.out HB.out hc.1)
    clear hc
    go_wp2_with fail
    refine HR.out.mono ?_
    rintro e w2 ⟨r, K, rfl, h2⟩
    obtain ⟨L, HL⟩ : ∃ L : Nat, Hid ((L : Int) = limit) := ⟨limit.toNat, by show _ = _; have := HC.out; omega⟩
    have hL : L ≤ 16777216 := by have := HC.out; have := HL.out; omega
    have HLT : Hid (limit.toNat = L) := by show _ = _; have := HL.out; omega
    obtain ⟨K3, h3⟩ := h2.box1 (txO r none 0 0 L false none none)
    have h4 := Herd.swap h3
    have h5 : Herd w1 (w2.alloc (txO r none 0 0 L false none none)) [(K3, tb w2.heap.size (txO r none 0 0 L false none none)), (K, tr r (unpack l) 0), (fun _ => 0, tl (.slice none 0 0) [])] :=
      h4.push (Below.refl _ _) ⟨World.ownsRow_nil _ _ _ _, fun k hk => by simp [Value.ownBlock] at hk, fun k hk => absurd rfl hk⟩ fun k hk => absurd rfl hk
    have HX : Hid (TX w1 (w2.alloc (txO r none 0 0 L false none none)) w2.heap.size r (unpack l) 0 L [] false []) := ⟨_, _, _, none, 0, none, none, h5, .inl ⟨rfl, rfl⟩, Nat.zero_le _, hL⟩
    rw [← HL.out]
    clear h2 h3 h4 h5 HR HM
    go_wp2
    go_ret
    rw [HLT.out]
    exact .inl ⟨HC.out, w2.heap.size, r, rfl, HX.out⟩
  · rw [decide_eq_false hc]
    have HC := hide hc
    clear hc HM
    go_wp2_with fail
    refine (giveUp_any 1 _).mono ?_
    rintro e w2 ⟨rfl, rfl⟩
    go_wp2
    exact ⟨rfl, .inr ⟨HC.out, rfl, Below.refl _ _⟩⟩

theorem ob_up {w : World} {v : Value} {l : List Int} {B : Nat} (h : OB w 0 v l) (hk : ∀ k, v.ownBlock = some k → B ≤ k) : OB w B v l := by
  obtain ⟨h0, h1⟩ := h
  refine ⟨h0, ?_⟩
  rcases h1 with h1 | ⟨g, cap, cur, rfl, h2, h3⟩
  · exact .inl h1
  · exact .inr ⟨g, cap, cur, rfl, hk g rfl, h3⟩

theorem TX.own {W w : World} {g r : Nat} {row : List Int} {p L : Nat} {out : List Int} {dn : Bool} {ys : List ((Nat → Nat) × Thing)} (H : TX W w g r row p L out dn ys) : ∃ a c, w.cell? ⟨g, 1, none⟩ = some (.slice a out.length c) ∧ OB w W.heap.size (.slice a out.length c) out := by
  obtain ⟨Kt, Kr, Ko, a, c, fl, fd, HH, hf, hk⟩ := H
  have h2 : (tl (.slice a out.length c) out).P w Ko := HH.rep 2 _ rfl
  exact ⟨a, c, (txO_cells (HH.tbat 0 rfl)).2.1, ob_up h2.1 fun k hk => HH.up 2 _ rfl k (h2.2.1 k hk)⟩

/-- How the blocks that are read so far lead to the text's answer. -/
def Rdg (row : List Int) (L p : Nat) (out : List Int) (dn : Bool) : Prop :=
  (dn = false ∧ ∀ ps E q o, Txt row L p out ps E q o → ∃ ps', Txt row L 0 [] ps' E q o) ∨ (dn = true ∧ ∃ ps, Txt row L 0 [] ps 0 p out)

theorem Rdg.step {row : List Int} {L p : Nat} {out : List Int} {f : Bool} {k : Int} {q : Nat} {o : List Int} (h : Rdg row L p out false) (hb : Blk row L p out 0 f k q o) : Rdg row L q o f := by
  rcases h with ⟨_, h⟩ | ⟨h, _⟩
  · cases f with
    | false => exact .inl ⟨rfl, fun ps E q' o' ht => h _ _ _ _ (Txt.go hb ht)⟩
    | true => exact .inr ⟨rfl, h _ _ _ _ (Txt.last hb)⟩
  · cases h

set_option maxHeartbeats 4000000 in
/-- What Inflate runs. -/
theorem hinf1 {w : World} {b0 b1 b2 b3 : Nat} {v : Value} {l : List Int} {limit : Int} (c0 : w.cell? ⟨b0, 0, none⟩ = some v) (c1 : w.cell? ⟨b1, 0, none⟩ = some (.int .i64 limit)) (c2 : ∃ u, w.cell? ⟨b2, 0, none⟩ = some u) (c3 : ∃ u, w.cell? ⟨b3, 0, none⟩ = some u) (f2 : w.frozen? ⟨b2, 0, none⟩ = false) (f3 : w.frozen? ⟨b3, 0, none⟩ = false) (h23 : b2 ≠ b3)
    (h : SB w v l) (hB : Byt l) (T : Tab w) (O : Odr w) :
    Calls Tryz.prog 26 #[.pointer (some ⟨b0, 0, none⟩), .pointer (some ⟨b1, 0, none⟩), .pointer (some ⟨b2, 0, none⟩), .pointer (some ⟨b3, 0, none⟩)] w fun e w' => ∃ E n o, Ifl l limit E n o ∧ ((E = 0 ∧ e = .returned (.tuple #[]) ∧ ∃ w1 a c, Below w.heap.size w w1 ∧ OB w1 w.heap.size (.slice a o.length c) o ∧ w' = (w1.setCell ⟨b2, 0, none⟩ (.slice a o.length c)).setCell ⟨b3, 0, none⟩ (.int .i64 n)) ∨ (E ≠ 0 ∧ Off w E e w')) := by
  have HT := hide T
  have HO := hide O
  have HBG := hide (hbegin h hB limit)
  have hb2 : b2 < w.heap.size := by obtain ⟨u, hu⟩ := c2; exact World.block_lt_of_cell? _ _ hu
  have hb3 : b3 < w.heap.size := by obtain ⟨u, hu⟩ := c3; exact World.block_lt_of_cell? _ _ hu
  have HC2 := hide c2
  have HC3 := hide c3
  have HF2 := hide f2
  have HF3 := hide f3
  have HBW := hide hB
  clear T O h hB c2 c3 f2 f3
  go_enter Tryz.func26, Tryz.ntmps26
  go_wp2_with fail
  refine HBG.out.mono ?_
  rintro e w1 (⟨hdom, g, r, rfl, h1⟩ | ⟨hdom, rfl, h1⟩)
  case inr =>
    have HX := hide h1
    have HI : Hid (Ifl l limit 1 0 []) := .inl ⟨hdom, rfl, rfl, rfl⟩
    clear h1 c0 c1 hdom
    go_wp2
    exact ⟨rfl, 1, 0, [], HI.out, .inr ⟨by decide, rfl, HX.out⟩⟩
  obtain ⟨L, HL⟩ : ∃ L : Nat, Hid (L = limit.toNat) := ⟨_, rfl⟩
  rw [← HL.out] at h1
  have HX1 := hide h1
  have HDM := hide hdom
  have HRD : Hid (Rdg (unpack l) L 0 [] false) := .inl ⟨rfl, fun ps E q o ht => ⟨ps, ht⟩⟩
  have HIF : Hid (∀ E q o, (∃ ps, Txt (unpack l) L 0 [] ps E q o) → (E = 0 → Ifl l limit 0 q o) ∧ (E ≠ 0 → Ifl l limit E 0 [])) := fun E q o ⟨ps, ht⟩ => by
    rw [HL.out] at ht
    exact ⟨fun he => .inr ⟨HDM.out, ps, q, o, by rw [← he]; exact ht, .inl ⟨rfl, rfl, rfl⟩⟩, fun he => .inr ⟨HDM.out, ps, q, o, ht, .inr ⟨he, rfl, rfl⟩⟩⟩
  obtain ⟨row, HROW⟩ : ∃ row, Hid (row = unpack l) := ⟨_, rfl⟩
  rw [← HROW.out] at HX1 HRD HIF
  clear h1 hdom HBG c0 c1
  go_wp2
  go_loopw [] (fun wr => ∃ (p' : Nat) (o' : List Int) (dn : Bool) (ys : List ((Nat → Nat) × Thing)), Hid (TX w wr g r row p' L o' dn ys) ∧ Hid (Rdg row L p' o' dn)) (fun wr => row.length + 1 - (intOf ((wr.cell? ⟨r, 1, none⟩).getD undef)).toNat)
  case atStart => exact ⟨0, [], false, [], HX1, HRD⟩
  case round =>
    obtain ⟨p', o', dn, ys, HX, HR⟩ := hrel
    clear HX1 HRD
    have hms : (intOf ((wr.cell? ⟨r, 1, none⟩).getD undef)).toNat = p' := by rw [HX.out.at]; simp [intOf]
    have HMS := hide hms
    obtain ⟨ax, cx, d0, d1, d3, -, -, -, hat⟩ := HX.out.cells
    clear hms
    cases dn with
    | false =>
      have HBK := hide (hblock HX.out HT.out HO.out)
      clear d0 d1 hat
      go_wp2_with fail
      refine HBK.out.mono ?_
      rintro e w2 ⟨E, f, k, q, o, hblk, ⟨rfl, rfl, zs, h2⟩ | ⟨he, rfl, h2⟩⟩
      · have HX2 := hide h2
        have HR2 := hide (HR.out.step hblk)
        have HLT := hide (hblk.lt HX.out.rd.1 rfl)
        clear h2 hblk d3 HBK
        go_wp2
        go_roundw
        case rel => exact ⟨q, o, f, _, HX2, HR2⟩
        case measure =>
          rw [HMS.out, HX2.out.at]
          simp [intOf]
          have := HLT.out
          omega
      · have HX2 := hide h2
        have HI : Hid (Ifl l limit E 0 []) := by
          rcases HR.out with ⟨_, hr⟩ | ⟨hr, _⟩
          · exact (HIF.out E p' o' (hr [] _ _ _ (Txt.bad hblk he))).2 he
          · cases hr
        clear h2 hblk d3
        go_wp2
        exact ⟨rfl, E, 0, [], HI.out, .inr ⟨he, rfl, HX2.out⟩⟩
    | true =>
      have HI : Hid (Ifl l limit 0 p' o') := by
        rcases HR.out with ⟨hr, _⟩ | ⟨_, hr⟩
        · cases hr
        · exact (HIF.out 0 p' o' hr).1 rfl
      obtain ⟨a5, c5, e1, ho5⟩ := HX.out.own
      rw [d1] at e1
      injection e1 with e1
      injection e1 with e1 _ e3
      subst e1; subst e3
      obtain ⟨M, HM⟩ : ∃ M : Nat, Hid (M = o'.length) := ⟨_, rfl⟩
      rw [← HM.out] at d1
      have HAT : Hid (Calls Tryz.prog 27 #[.pointer (some ⟨r, 0, none⟩)] wr.drew fun e w' => e = .returned (.int .i64 p') ∧ w' = wr.drew) := hat 1
      have HO5 := hide ho5
      have hbl := HX.out.bel
      have HBL := hide hbl
      obtain ⟨u2, hu2⟩ := HC2.out
      obtain ⟨u3, hu3⟩ := HC3.out
      have k2 : wr.cell? ⟨b2, 0, none⟩ = some u2 := by rw [hbl.cell hb2]; exact hu2
      have k3 : wr.cell? ⟨b3, 0, none⟩ = some u3 := by rw [hbl.cell hb3]; exact hu3
      have k4 : wr.frozen? ⟨b2, 0, none⟩ = false := by rw [hbl.frozen hb2]; exact HF2.out
      have k5 : wr.frozen? ⟨b3, 0, none⟩ = false := by rw [hbl.frozen hb3]; exact HF3.out
      have h32 : ¬ b3 = b2 := fun e => h23 e.symm
      clear hat ho5 hbl hu2 hu3
      go_wp2
      go_region_with (go_at_call 27; (with_reducible refine HAT.out.mono ?_); rintro e w7 ⟨rfl, hw7⟩; rw [hw7]; clear hw7)
      all_goals
        go_wp2
        (try simp only [Exit.inBlock, Exit.then])
        refine bodyPost_end (results_none rfl _ _ _) rfl ?_
        refine ⟨0, p', o', HI.out, .inl ⟨rfl, rfl, wr.drew, ax, cx, HBL.out.drew, HO5.out.move (fun k hk => rfl), ?_⟩⟩
        rw [← HM.out]
        rfl
end Go.Proofs.YtpmgnpfpnkmmbaaGreatDoor

namespace Go.Proofs.YtpmgnpfpnkmmbaaGreatDoor
open Go.RowKit Go.Maps
set_option maxRecDepth 20000
set_option linter.unusedVariables false

/-- What Inflate answers. -/
def Ians (w : World) (l : List Int) (limit : Int) (e : Ending) (w' : World) : Prop :=
  ∃ E n o a c, Ifl l limit E n o ∧ e = .returned (.tuple #[.slice a o.length c, .int .i64 (n : Nat), .int .i64 E]) ∧ OB w' w.heap.size (.slice a o.length c) o ∧ Below w.heap.size w w'

theorem ob_set {w : World} {B b : Nat} {v u : Value} {l : List Int} (h : OB w B v l) (hb : b < B) : OB (w.setCell ⟨b, 0, none⟩ u) B v l := h.move fun k hk => setCell_others w b 0 u k (by have := (h.lt k hk).1; omega)

theorem cell_set {w : World} {b c : Nat} {u z : Value} (h : w.cell? ⟨c, 0, none⟩ = some z) (hbc : b ≠ c) : (w.setCell ⟨b, 0, none⟩ u).cell? ⟨c, 0, none⟩ = some z := by
  rw [World.cell?_of_block (w := w) (setCell_others w b 0 u c (fun e => hbc e.symm))]; exact h
theorem froz_set {w : World} {b c : Nat} {u : Value} (h : w.frozen? ⟨c, 0, none⟩ = false) (hbc : b ≠ c) : (w.setCell ⟨b, 0, none⟩ u).frozen? ⟨c, 0, none⟩ = false := by
  rw [World.frozen?_of_block (w := w) (setCell_others w b 0 u c (fun e => hbc e.symm))]; exact h

/-- Four boxes, and one for the error. -/
theorem five {w : World} (o0 o1 o2 o3 o4 : Obj) : ∃ w5, w5 = ((((w.alloc o0).alloc o1).alloc o2).alloc o3).alloc o4 ∧ w5.heap[w.heap.size]? = some o0 ∧ w5.heap[w.heap.size + 1]? = some o1 ∧ w5.heap[w.heap.size + 2]? = some o2 ∧ w5.heap[w.heap.size + 3]? = some o3 ∧ w5.heap[w.heap.size + 4]? = some o4 ∧ w5.heap.size = w.heap.size + 5 ∧ Below w.heap.size w w5 := by
  have b1 := (Below.refl w.heap.size w).alloc (Nat.le_refl _) o0
  have b2 := b1.alloc b1.size o1
  have b3 := b2.alloc b2.size o2
  have b4 := b3.alloc b3.size o3
  have b5 := b4.alloc b4.size o4
  refine ⟨_, rfl, ?_, ?_, ?_, ?_, ?_, by simp, b5⟩
  · rw [Below.heap_alloc _ _ _ (by simp <;> omega), Below.heap_alloc _ _ _ (by simp <;> omega), Below.heap_alloc _ _ _ (by simp <;> omega), Below.heap_alloc _ _ _ (by simp <;> omega)]; exact heap_alloc_new _ _
  · rw [Below.heap_alloc _ _ _ (by simp <;> omega), Below.heap_alloc _ _ _ (by simp <;> omega), Below.heap_alloc _ _ _ (by simp <;> omega)]; exact (by simpa using heap_alloc_new (w.alloc o0) o1)
  · rw [Below.heap_alloc _ _ _ (by simp <;> omega), Below.heap_alloc _ _ _ (by simp <;> omega)]; exact (by simpa using heap_alloc_new ((w.alloc o0).alloc o1) o2)
  · rw [Below.heap_alloc _ _ _ (by simp <;> omega)]; exact (by simpa using heap_alloc_new (((w.alloc o0).alloc o1).alloc o2) o3)
  · exact (by simpa using heap_alloc_new ((((w.alloc o0).alloc o1).alloc o2).alloc o3) o4)

theorem one_cell {w : World} {g : Nat} {z : Value} {t : TypeId} (h : w.heap[g]? = some (.cells #[z] t (0, 0))) : w.cell? ⟨g, 0, none⟩ = some z ∧ w.frozen? ⟨g, 0, none⟩ = false := by
  constructor
  · unfold World.cell?; rw [h]; rfl
  · unfold World.frozen?; rw [h]; rfl

set_option maxHeartbeats 4000000 in
theorem hInflate {w : World} {v : Value} {l : List Int} (h : SB w v l) (hB : Byt l) (limit : Int) (T : Tab w) (O : Odr w) :
    Calls Tryz.prog 14 #[v, .int .i64 limit] w (Ians w l limit) := by
  obtain ⟨w5, hw5, t0, t1, t2, t3, t4, hsz, hb5⟩ := five (w := w) (.cells #[v] 22) (.cells #[.int .i64 limit] 3) (.cells #[.slice none 0 0] 22) (.cells #[.int .i64 0] 3) (.cells #[.int .i64 0] 25)
  obtain ⟨k0, -⟩ := one_cell t0
  obtain ⟨k1, -⟩ := one_cell t1
  obtain ⟨k2, j2⟩ := one_cell t2
  obtain ⟨k3, j3⟩ := one_cell t3
  obtain ⟨k4, j4⟩ := one_cell t4
  have hin := hinf1 k0 k1 ⟨_, k2⟩ ⟨_, k3⟩ j2 j3 (by omega) (h.below hb5) hB (T.mono hb5) (O.mono hb5)
  obtain ⟨w4, hw4⟩ : ∃ w4, (((w.alloc (.cells #[v] 22)).alloc (.cells #[.int .i64 limit] 3)).alloc (.cells #[.slice none 0 0] 22)).alloc (.cells #[.int .i64 0] 3) = w4 := ⟨_, rfl⟩
  have hs4 : w4.heap.size = w.heap.size + 4 := by rw [← hw4]; simp
  rw [hw4] at hw5
  have HCA : Hid (Calls Tryz.prog 21 #[.func (.func 26) #[] #[.pointer (some ⟨w.heap.size, 0, none⟩), .pointer (some ⟨w.heap.size + 1, 0, none⟩), .pointer (some ⟨w.heap.size + 2, 0, none⟩), .pointer (some ⟨w.heap.size + 3, 0, none⟩)]] w4 fun e w' => ∃ E n o a c, Ifl l limit E n o ∧ e = .returned (.int .i64 E) ∧ w'.cell? ⟨w.heap.size + 2, 0, none⟩ = some (.slice a o.length c) ∧ w'.cell? ⟨w.heap.size + 3, 0, none⟩ = some (.int .i64 (n : Nat)) ∧ w'.frozen? ⟨w.heap.size + 2, 0, none⟩ = false ∧ w'.frozen? ⟨w.heap.size + 3, 0, none⟩ = false ∧ OB w' (w.heap.size + 5) (.slice a o.length c) o ∧ Below w.heap.size w w') := by
    refine (hcaught w4 26 _ (fun w => Tryz.call26 _ w)
      (fun w' => ∃ n o a c, Ifl l limit 0 n o ∧ w'.cell? ⟨w.heap.size + 2, 0, none⟩ = some (.slice a o.length c) ∧ w'.cell? ⟨w.heap.size + 3, 0, none⟩ = some (.int .i64 (n : Nat)) ∧ w'.frozen? ⟨w.heap.size + 2, 0, none⟩ = false ∧ w'.frozen? ⟨w.heap.size + 3, 0, none⟩ = false ∧ OB w' (w.heap.size + 5) (.slice a o.length c) o ∧ Below w.heap.size w w' ∧ w'.cell? ⟨w.heap.size + 4, 0, none⟩ = some (.int .i64 0) ∧ w'.frozen? ⟨w.heap.size + 4, 0, none⟩ = false ∧ w.heap.size + 5 ≤ w'.heap.size)
      (fun E w' => Ifl l limit E 0 [] ∧ Below w5.heap.size w5 w') ?_ ?_ ?_).mono ?_
    · rw [← hw5]
      refine hin.mono ?_
      rintro e w' ⟨E, n, o, hI, ⟨rfl, rfl, w1, a, c, hb, ho, rfl⟩ | ⟨he, rfl, hb⟩⟩
      · refine .inl ⟨rfl, n, o, a, c, hI, ?_⟩
        have u2 : w1.cell? ⟨w.heap.size + 2, 0, none⟩ = some (.slice none 0 0) := by rw [hb.cell (by dsimp only; omega)]; exact k2
        have u3 : w1.cell? ⟨w.heap.size + 3, 0, none⟩ = some (.int .i64 0) := by rw [hb.cell (by dsimp only; omega)]; exact k3
        have u4 : w1.cell? ⟨w.heap.size + 4, 0, none⟩ = some (.int .i64 0) := by rw [hb.cell (by dsimp only; omega)]; exact k4
        have v2 : w1.frozen? ⟨w.heap.size + 2, 0, none⟩ = false := by rw [hb.frozen (by dsimp only; omega)]; exact j2
        have v3 : w1.frozen? ⟨w.heap.size + 3, 0, none⟩ = false := by rw [hb.frozen (by dsimp only; omega)]; exact j3
        have v4 : w1.frozen? ⟨w.heap.size + 4, 0, none⟩ = false := by rw [hb.frozen (by dsimp only; omega)]; exact j4
        rw [hsz] at ho
        have hsz1 := hb.size
        refine ⟨cell_set (World.cell?_setCell_same _ _ _ u2) (by omega), World.cell?_setCell_same _ _ _ (cell_set u3 (by omega)), froz_set ?_ (by omega), ?_, ob_set (ob_set ho (by omega)) (by omega), ?_, cell_set (cell_set u4 (by omega)) (by omega), froz_set (froz_set v4 (by omega)) (by omega), by simp; omega⟩
        · rw [World.frozen?_setCell]; exact v2
        · rw [World.frozen?_setCell]; exact froz_set v3 (by omega)
        · exact ((hb5.trans (hb.mono (by omega))).setCell (p := ⟨w.heap.size + 2, 0, none⟩) (by dsimp only; omega) _).setCell (p := ⟨w.heap.size + 3, 0, none⟩) (by dsimp only; omega) _
      · refine .inr ⟨E, rfl, ?_, hb⟩
        rcases hI with ⟨hd, rfl, rfl, rfl⟩ | ⟨hd, ps, q, o', ht, ⟨h0, _⟩ | ⟨_, rfl, rfl⟩⟩
        · exact .inl ⟨hd, rfl, rfl, rfl⟩
        · exact absurd h0 he
        · exact .inr ⟨hd, ps, q, o', ht, .inr ⟨he, rfl, rfl⟩⟩
    · rintro w' ⟨n, o, a, c, -, -, -, -, -, -, -, x1, x2, x3⟩
      rw [hs4]
      exact ⟨x1, x2, by omega⟩
    · rintro E w' ⟨-, hb⟩
      rw [hs4]
      exact ⟨by rw [hb.cell (by dsimp only; omega)]; exact k4, by rw [hb.frozen (by dsimp only; omega)]; exact j4, by have := hb.size; omega⟩
    · rintro e w' (⟨rfl, w1, ⟨n, o, a, c, hI, x2, x3, y2, y3, ho, hb, -⟩, rfl⟩ | ⟨E, w1, rfl, ⟨hI, hb⟩, rfl⟩)
      · rw [hs4]
        refine ⟨0, n, o, a, c, hI, rfl, cell_set x2 (by omega), cell_set x3 (by omega), froz_set y2 (by omega), froz_set y3 (by omega), ob_set ho (by omega), hb.setCell (p := ⟨w.heap.size + 4, 0, none⟩) (by dsimp only; omega) _⟩
      · rw [hs4]
        have hsz1 := hb.size
        have hbb : Below w.heap.size w (w1.setCell ⟨w.heap.size + 4, 0, none⟩ (.int .i64 E)) := (hb5.trans (hb.mono (by omega))).setCell (p := ⟨w.heap.size + 4, 0, none⟩) (by dsimp only; omega) _
        have u2 : w1.cell? ⟨w.heap.size + 2, 0, none⟩ = some (.slice none 0 0) := by rw [hb.cell (by dsimp only; omega)]; exact k2
        have u3 : w1.cell? ⟨w.heap.size + 3, 0, none⟩ = some (.int .i64 0) := by rw [hb.cell (by dsimp only; omega)]; exact k3
        have v2 : w1.frozen? ⟨w.heap.size + 2, 0, none⟩ = false := by rw [hb.frozen (by dsimp only; omega)]; exact j2
        have v3 : w1.frozen? ⟨w.heap.size + 3, 0, none⟩ = false := by rw [hb.frozen (by dsimp only; omega)]; exact j3
        have ha := (Below.refl (w1.setCell ⟨w.heap.size + 4, 0, none⟩ (.int .i64 E)).heap.size (w1.setCell ⟨w.heap.size + 4, 0, none⟩ (.int .i64 E))).alloc (Nat.le_refl _) (.cells #[.int .i64 E] 64)
        refine ⟨E, 0, [], none, 0, hI, rfl, ?_, ?_, ?_, ?_, World.ownsRow_nil _ _ _ _, hbb.alloc hbb.size _⟩
        · rw [ha.cell (by rw [size_setCell]; dsimp only; omega)]; exact cell_set u2 (by omega)
        · rw [ha.cell (by rw [size_setCell]; dsimp only; omega)]; exact cell_set u3 (by omega)
        · rw [ha.frozen (by rw [size_setCell]; dsimp only; omega)]; exact froz_set v2 (by omega)
        · rw [ha.frozen (by rw [size_setCell]; dsimp only; omega)]; exact froz_set v3 (by omega)
  have HW4 := hide hw4
  have hmf : ∀ (fn : Fn) (first cap : Array Value) (w : World), (Instr.makeFunc fn first cap).run Tryz.prog w = .ok (.func fn first cap) w := fun _ _ _ _ => rfl
  obtain ⟨a, c, hva, -⟩ := h
  subst hva
  clear hw4 hw5 hin t0 t1 t2 t3 t4 hsz hb5 k0 k1 k2 k3 k4 j2 j3 j4 hs4 T O hB
  go_enter Tryz.func14, Tryz.ntmps14
  go_wp2_with fail
  rw [HW4.out]
  refine HCA.out.mono ?_
  rintro e w6 ⟨E, n, o, a2, c2, hI, rfl, x2, x3, y2, y3, ho, hb⟩
  obtain ⟨M, HM⟩ : ∃ M : Nat, Hid (M = o.length) := ⟨_, rfl⟩
  rw [← HM.out] at x2
  have HI := hide hI
  have HOO := hide ho
  have HBB := hide hb
  clear hI ho hb HCA
  have z1 : (w6.setCell ⟨w.heap.size + 2, 0, none⟩ (.slice a2 M c2)).cell? ⟨w.heap.size + 3, 0, none⟩ = some (.int .i64 (n : Nat)) := cell_set x3 (by omega)
  have z2 : (w6.setCell ⟨w.heap.size + 2, 0, none⟩ (.slice a2 M c2)).frozen? ⟨w.heap.size + 3, 0, none⟩ = false := froz_set y3 (by omega)
  have z3 : ((w6.setCell ⟨w.heap.size + 2, 0, none⟩ (.slice a2 M c2)).setCell ⟨w.heap.size + 3, 0, none⟩ (.int .i64 (n : Nat))).cell? ⟨w.heap.size + 2, 0, none⟩ = some (.slice a2 M c2) := cell_set (World.cell?_setCell_same _ _ _ x2) (by omega)
  have z4 : ((w6.setCell ⟨w.heap.size + 2, 0, none⟩ (.slice a2 M c2)).setCell ⟨w.heap.size + 3, 0, none⟩ (.int .i64 (n : Nat))).cell? ⟨w.heap.size + 3, 0, none⟩ = some (.int .i64 (n : Nat)) := World.cell?_setCell_same _ _ _ z1
  have HOF : Hid (OB ((w6.setCell ⟨w.heap.size + 2, 0, none⟩ (.slice a2 M c2)).setCell ⟨w.heap.size + 3, 0, none⟩ (.int .i64 (n : Nat))) (w.heap.size + 5) (.slice a2 o.length c2) o) := ob_set (ob_set HOO.out (by omega)) (by omega)
  have HBF : Hid (Below w.heap.size w ((w6.setCell ⟨w.heap.size + 2, 0, none⟩ (.slice a2 M c2)).setCell ⟨w.heap.size + 3, 0, none⟩ (.int .i64 (n : Nat)))) := (HBB.out.setCell (p := ⟨w.heap.size + 2, 0, none⟩) (by dsimp only; omega) _).setCell (p := ⟨w.heap.size + 3, 0, none⟩) (by dsimp only; omega) _
  go_wp2
  go_region
  all_goals
    go_wp2
    refine bodyPost_ret (v := .tuple #[.slice a2 M c2, .int .i64 (n : Nat), .int .i64 E]) (by simp [results, Tryz.results14, go_sem, z3, z4]) rfl ?_
    refine ⟨E, n, o, a2, c2, HI.out, by rw [HM.out], ?_, ?_⟩
    · exact (HOF.out.base (by omega)).move fun k hk => rfl
    · exact HBF.out.drew
end Go.Proofs.YtpmgnpfpnkmmbaaGreatDoor

namespace Go.Proofs.YtpmgnpfpnkmmbaaGreatDoor
open Go.RowKit Go.Maps
set_option maxRecDepth 20000
set_option linter.unusedVariables false

theorem SX.own {W w : World} {g r : Nat} {row : List Int} {p L : Nat} {out : List Int} {wh : List (Array Value)} {us : Int} {dn : Bool} {er : Int} {ys : List ((Nat → Nat) × Thing)} (H : SX W w g r row p L out wh us dn er ys) : ∃ a c aw cw, w.heap[g]? = some (stO r L a out.length c aw wh.length cw us dn er) ∧ OB w W.heap.size (.slice a out.length c) out ∧ (ORp 54 6 w 0 (.slice aw wh.length cw) wh ∧ ∀ k, (Value.slice aw wh.length cw).ownBlock = some k → W.heap.size ≤ k) ∧ Below W.heap.size W w := by
  obtain ⟨Kt, Kr, Ko, Kw, a, c, aw, cw, HH, hk⟩ := H
  have h2 : (tl (.slice a out.length c) out).P w Ko := HH.rep 2 _ rfl
  have h3 : (tor (.slice aw wh.length cw) wh).P w Kw := HH.rep 3 _ rfl
  exact ⟨a, c, aw, cw, HH.tbat 0 rfl, ob_up h2.1 (fun k hk => HH.up 2 _ rfl k (h2.2.1 k hk)), ⟨h3.1, fun k hk => HH.up 3 _ rfl k (h3.2.1 k hk)⟩, HH.bel⟩

/-- A text as the document reads it: the cells of its state. -/
def Pgs (w w' : World) (g : Nat) (row : List Int) (L : Nat) : Prop :=
  ∃ r p out wh us dn er a c aw cw, w'.heap[g]? = some (stO r L a out.length c aw wh.length cw us dn er) ∧ OB w' w.heap.size (.slice a out.length c) out ∧ (ORp 54 6 w' 0 (.slice aw wh.length cw) wh ∧ ∀ k, (Value.slice aw wh.length cw).ownBlock = some k → w.heap.size ≤ k) ∧ Below w.heap.size w w' ∧
    ((er ≠ 0 ∧ ∃ ps q o, Txt row L 0 [] ps er q o) ∨ (er = 0 ∧ ∃ pre : List Pc, wh = pre.map pcv ∧ us = ((p : Nat) : Int) ∧ Txt row L 0 [] pre 0 p out))

theorem Pgr.state {w w' : World} {g : Nat} {row : List Int} {L : Nat} (h : Pgr w w' g row L) : Pgs w w' g row L := by
  obtain ⟨r, p, out, wh, us, dn, er, ys, HX, HV, hor⟩ := h
  obtain ⟨a, c, aw, cw, h1, h2, h3, h4⟩ := HX.own
  refine ⟨r, p, out, wh, us, dn, er, a, c, aw, cw, h1, h2, h3, h4, ?_⟩
  rcases HV with ⟨pre, he, hw, ⟨hd, _⟩ | ⟨hd, hu, ht⟩⟩ | ⟨he, hx⟩
  · rcases hor with h | h
    · rw [hd] at h; cases h
    · exact absurd he h
  · exact .inr ⟨he, pre, hw, hu, ht⟩
  · exact .inl ⟨he, hx⟩

theorem vprog {w : World} {v : Value} {l : List Int} {L : Nat} (h : SB w v l) (hB : Byt l) (hl : l.length ≤ 33554432) (hL : L ≤ 16777216) (O : Xodr w) :
    Calls Tryz.prog 25 #[v, .int .i64 L] w fun e w' => ∃ g, e = .returned (.pointer (some ⟨g, 0, none⟩)) ∧ Pgs w w' g (unpack l) L := by
  refine (vprogress h hB hl hL O).mono ?_
  rintro e w' ⟨g, rfl, hP⟩
  exact ⟨g, rfl, hP.state⟩

set_option maxHeartbeats 4000000 in
/-- Inflate, as the document has it. -/
theorem vInflate {w : World} {v : Value} {l : List Int} (h : SB w v l) (hB : Byt l) (limit : Int) (O : Xodr w) :
    Calls Tryz.prog 15 #[v, .int .i64 limit] w (Ians w l limit) := by
  have HS := hide h
  have HB := hide hB
  have HO := hide O
  obtain ⟨a0, x0, rfl, -⟩ := h
  obtain ⟨N, HN⟩ : ∃ N : Nat, Hid (N = l.length) := ⟨_, rfl⟩
  have HS2 : Hid (SB w (.slice a0 N x0) l) := by rw [HN.out]; exact HS
  rw [← HN.out]
  clear hB O HS
  have HBAD : Hid (¬ (l.length ≤ 33554432 ∧ 0 ≤ limit ∧ limit ≤ 16777216) → Ians w l limit (.returned (.tuple #[.slice none 0 0, .int .i64 0, .int .i64 1])) w) := fun hn => ⟨1, 0, [], none, 0, .inl ⟨hn, rfl, rfl, rfl⟩, rfl, World.ownsRow_nil _ _ _ _, Below.refl _ _⟩
  go_enter Tryz.func15, Tryz.ntmps15
  by_cases c0 : 33554432 < (N : Int)
  · go_wp2
    go_ret3
    exact HBAD.out (by rw [← HN.out]; omega)
  by_cases c1 : limit < 0
  · go_wp2
    go_ret3
    exact HBAD.out (by omega)
  by_cases c2 : 16777216 < limit
  · go_wp2
    go_ret3
    exact HBAD.out (by omega)
  obtain ⟨L, rfl⟩ : ∃ L : Nat, limit = (L : Int) := ⟨limit.toNat, by omega⟩
  have hL : L ≤ 16777216 := by omega
  have HD : Hid (l.length ≤ 33554432 ∧ 0 ≤ (L : Int) ∧ (L : Int) ≤ 16777216) := by show _ ∧ _; rw [← HN.out]; omega
  have HP := hide (vprog HS2.out HB.out HD.out.1 hL HO.out)
  go_wp2_with fail
  refine HP.out.mono ?_
  rintro e w2 ⟨g, rfl, r, p, out, wh, us, dn, er, a, c, aw, cw, hst, ho, -, hb, hcase⟩
  obtain ⟨-, -, k2, -, k4, -, k6, -⟩ := stO_cells hst
  have HOB := hide ho
  have HBE := hide hb
  clear hst ho hb HP
  obtain ⟨M, HM⟩ : ∃ M : Nat, Hid (M = out.length) := ⟨_, rfl⟩
  rw [← HM.out] at k2
  rcases hcase with ⟨he, ps, q, o, ht⟩ | ⟨rfl, pre, hw, rfl, ht⟩
  · have he' : (er != 0) = true := by simpa using he
    have HA : Hid (∀ n, Ians w l L (.returned (.tuple #[.slice none 0 0, .int .i64 0, .int .i64 er])) (w2.drewN n)) := fun n => ⟨er, 0, [], none, 0, .inr ⟨HD.out, ps, q, o, by rw [Int.toNat_natCast]; exact ht, .inr ⟨he, rfl, rfl⟩⟩, rfl, World.ownsRow_nil _ _ _ _, below_drewN HBE.out n⟩
    clear ht he
    go_wp2
    go_quiet (fail)
    go_wp2
    go_ret3
    exact HA.out _
  · have HA : Hid (∀ n, Ians w l L (.returned (.tuple #[.slice a M c, .int .i64 (p : Nat), .int .i64 0])) (w2.drewN n)) := fun n => ⟨0, p, out, a, c, .inr ⟨HD.out, pre, p, out, by rw [Int.toNat_natCast]; exact ht, .inl ⟨rfl, rfl, rfl⟩⟩, by rw [HM.out], HOB.out.move fun k hk => rfl, below_drewN HBE.out n⟩
    clear ht hw
    go_wp2
    go_quiet (fail)
    go_wp2
    go_ret3
    exact HA.out _
end Go.Proofs.YtpmgnpfpnkmmbaaGreatDoor

namespace Go.Proofs.YtpmgnpfpnkmmbaaGreatDoor
open Go.RowKit Go.Maps
set_option maxRecDepth 20000
set_option linter.unusedVariables false

theorem sizeByte8 : (Tryz.prog.info? 5).map (·.size) = some 1 := by kernel_rfl

/-- A new list with room behind it. -/
theorem copied8_any (v : Value) (l : List Int) (w : World) (h : SB w v l) (hr : l.length ≤ 140737488351232) :
    Calls Tryz.prog 9 #[v] w fun e w' => e = .returned (.slice (some ⟨w.heap.size, 0, none⟩) l.length (l.length + 8)) ∧ OB w' w.heap.size (.slice (some ⟨w.heap.size, 0, none⟩) l.length (l.length + 8)) l ∧ Below w.heap.size w w' := by
  obtain ⟨ao, cap, rfl, hlc, hcm, hnil, hcell⟩ := h
  unfold maxLen at hcm
  go_enter Tryz.func9, Tryz.ntmps9
  go_wp2_with (at_make; refine wpList_mk rfl _ _ rfl _ _ _ _ l.length (l.length + 8) rfl rfl rfl (by first | rfl | (simp; done)) (by omega) (by omega) ?_)
  intro w1 hg hb1
  have Hg := hide hg
  clear hg
  have HN : Hid (ao = none → cap = 0) := hnil
  have HC : Hid (∀ x, ao = some x → ∀ i, i < l.length → w.cell? (x.add i) = some (.int .u8 (l.getD i 0))) := hcell
  clear hnil hcell
  obtain ⟨cs, hcs⟩ : ∃ cs, cs = l.map (Value.int .u8) := ⟨_, rfl⟩
  have HS : Hid (cs = l.map (Value.int .u8)) := hcs
  clear hcs
  have C1 : Hid (cs.length = Nat.min l.length l.length) := by show _ = _; rw [HS.out]; simp
  have C2 : Hid (0 < cs.length → (some (⟨w.heap.size, 0, none⟩ : Addr)) = some ⟨w.heap.size, 0, none⟩ ∧ ∃ ad, ao = some ad ∧ ∀ j v, cs[j]? = some v → w1.cell? (ad.add j) = some v) := by
    intro hp
    refine ⟨rfl, ?_⟩
    rw [HS.out, List.length_map] at hp
    cases ao with
    | none => have := HN.out rfl; omega
    | some x =>
      refine ⟨x, rfl, fun j u hj => ?_⟩
      rw [HS.out] at hj
      obtain ⟨hjl, rfl⟩ := List.getElem?_eq_some_iff.1 hj
      have hjl' : j < l.length := by simpa using hjl
      have hc := HC.out x rfl j hjl'
      rw [hb1.cell (by have := World.block_lt_of_cell? _ _ hc; exact this), hc]
      simp [hjl']
  have C3 : Hid (0 + cs.length ≤ (List.replicate (l.length + 8) (Value.int .u8 0)).length) := by show _ ≤ _; rw [HS.out]; simp
  have C4 : Hid (∀ v ∈ cs, v.oneCell' = true) := by rw [HS.out]; intro u hu; obtain ⟨n, _, rfl⟩ := List.mem_map.1 hu; rfl
  go_wp2_with (refine wpList_copy_splice rfl _ _ 22 22 rfl 5 Tryz.underlying22 sizeByte8 _ _ _ _ _ _ rfl rfl w.heap.size 0 (List.replicate (l.length + 8) (Value.int .u8 0)) 5 Hg.out cs C1.out C2.out C3.out C4.out w.heap.size w hb1 (Nat.le_refl _) ?_)
  intro w2 HG2 hb2
  have hfin : OB w2 w.heap.size (.slice (some ⟨w.heap.size, 0, none⟩) l.length (l.length + 8)) l := by
    have hg := HG2.out
    rw [splice_front _ _ _ _ (by rw [HS.out]; simp), HS.out] at hg
    exact ⟨by simp, .inr ⟨w.heap.size, l.length + 8, _, rfl, Nat.le_refl _, hg, by omega, by unfold maxLen; omega, by simp, by simp⟩⟩
  have HF := hfin
  go_wp2
  go_ret
  exact ⟨rfl, HF, hb2⟩
end Go.Proofs.YtpmgnpfpnkmmbaaGreatDoor

namespace Go.Proofs.YtpmgnpfpnkmmbaaGreatDoor
open Go.RowKit Go.Maps
set_option maxRecDepth 20000
set_option linter.unusedVariables false
set_option linter.unusedSimpArgs false

def marks4 : List Int := [192, 193, 194, 195]

theorem framedB_any (v : Value) (l : List Int) (w : World) (h : SB w v l) (hr : l.length ≤ 140737488351232) :
    Calls Tryz.prog 6 #[v] w fun e w' => ∃ g c, e = .returned (.slice (some ⟨g, 0, none⟩) (l.length + 4) c) ∧ OB w' w.heap.size (.slice (some ⟨g, 0, none⟩) (l.length + 4) c) (l ++ marks4) ∧ Below w.heap.size w w' := by
  obtain ⟨ao, cap, rfl, hlc, hcm, hnil, hcell⟩ := h
  unfold maxLen at hcm
  go_enter Tryz.func6, Tryz.ntmps6
  go_wp2_with (at_make; refine wpList_mk rfl _ _ rfl _ _ _ _ l.length (l.length + 4) rfl rfl rfl (by first | rfl | (simp; done)) (by omega) (by omega) ?_)
  intro w1 hg hb1
  have Hg := hide hg
  clear hg
  have HN : Hid (ao = none → cap = 0) := hnil
  have HC : Hid (∀ x, ao = some x → ∀ i, i < l.length → w.cell? (x.add i) = some (.int .u8 (l.getD i 0))) := hcell
  clear hnil hcell
  obtain ⟨cs, hcs⟩ : ∃ cs, cs = l.map (Value.int .u8) := ⟨_, rfl⟩
  have HS : Hid (cs = l.map (Value.int .u8)) := hcs
  clear hcs
  have C1 : Hid (cs.length = Nat.min l.length l.length) := by show _ = _; rw [HS.out]; simp
  have C2 : Hid (0 < cs.length → (some (⟨w.heap.size, 0, none⟩ : Addr)) = some ⟨w.heap.size, 0, none⟩ ∧ ∃ ad, ao = some ad ∧ ∀ j v, cs[j]? = some v → w1.cell? (ad.add j) = some v) := by
    intro hp
    refine ⟨rfl, ?_⟩
    rw [HS.out, List.length_map] at hp
    cases ao with
    | none => have := HN.out rfl; omega
    | some x =>
      refine ⟨x, rfl, fun j u hj => ?_⟩
      rw [HS.out] at hj
      obtain ⟨hjl, rfl⟩ := List.getElem?_eq_some_iff.1 hj
      have hjl' : j < l.length := by simpa using hjl
      have hc := HC.out x rfl j hjl'
      rw [hb1.cell (by have := World.block_lt_of_cell? _ _ hc; exact this), hc]
      simp [hjl']
  have C3 : Hid (0 + cs.length ≤ (List.replicate (l.length + 4) (Value.int .u8 0)).length) := by show _ ≤ _; rw [HS.out]; simp
  have C4 : Hid (∀ v ∈ cs, v.oneCell' = true) := by rw [HS.out]; intro u hu; obtain ⟨n, _, rfl⟩ := List.mem_map.1 hu; rfl
  go_wp2_with (refine wpList_copy_splice rfl _ _ 22 22 rfl 5 Tryz.underlying22 sizeByte _ _ _ _ _ _ rfl rfl w.heap.size 0 (List.replicate (l.length + 4) (Value.int .u8 0)) 5 Hg.out cs C1.out C2.out C3.out C4.out w.heap.size w hb1 (Nat.le_refl _) ?_)
  intro w2 HG2 hb2
  have HF : Hid (OB w2 w.heap.size (.slice (some ⟨w.heap.size, 0, none⟩) l.length (l.length + 4)) l) := by
    have hg := HG2.out
    rw [splice_front _ _ _ _ (by rw [HS.out]; simp), HS.out] at hg
    exact ⟨by simp, .inr ⟨w.heap.size, l.length + 4, _, rfl, Nat.le_refl _, hg, by omega, by unfold maxLen; omega, by simp, by simp⟩⟩
  have HB2 := hide hb2
  clear C1 C2 C3 C4 HS HN HC Hg HG2 hb1 hb2
  go_wp2_with (at_builtin; refine wpList_app rfl _ _ 22 rfl w.heap.size _ _ l marks4 rfl (HF.out.alloc _) rfl (built_src w2 marks4) (by show _ + 4 ≤ _; omega) (by have := HB2.out.size; simp; omega) ?_)
  intro v' w3 ho hgr
  rcases ho.2 with ⟨_, hx⟩ | ⟨g, c, cur, rfl, k1, k2, k3, k4, k5, k6⟩
  · simp [marks4] at hx
  have e4 : (l ++ marks4).length = l.length + 4 := by simp [marks4]
  rw [e4] at ho
  rw [e4]
  have HO := hide ho
  have HB3 : Hid (Below w.heap.size w w3) := (HB2.out.alloc HB2.out.size _).grown hgr.by (by have := HB2.out.size; simp; omega) (fun k hk => by simp [Value.ownBlock] at hk; omega)
  clear ho hgr k2 k6 k5 k3
  go_wp2
  go_ret
  exact ⟨g, c, rfl, HO.out, HB3.out⟩

theorem SB.cellsAt {w : World} {g o n c : Nat} {l : List Int} (h : SB w (.slice (some ⟨g, o, none⟩) n c) l) : ∀ i, i < l.length → w.cell? ⟨g, o + i, none⟩ = some (.int .u8 (l.getD i 0)) := by
  obtain ⟨ao, cap, he, h1, h2, h3, h4⟩ := h
  simp only [Value.slice.injEq] at he
  intro i hi
  have := h4 ⟨g, o, none⟩ he.1.symm i hi
  rwa [Addr.add_lit] at this

theorem wholeB_any (v2 : Value) (g c : Nat) (l : List Int) (w : World) (h1 : SB w (.slice (some ⟨g, 0, none⟩) (l.length + 4) c) (l ++ marks4)) (h2 : SB w v2 l) (hr : l.length ≤ 140737488351232) :
    Calls Tryz.prog 12 #[.slice (some ⟨g, 0, none⟩) (l.length + 4) c, v2] w fun e w' => e = .returned (.bool true) ∧ ∃ n, w' = w.drewN n := by
  have hcl : ∀ i, i < l.length + 4 → w.cell? ⟨g, i, none⟩ = some (.int .u8 ((l ++ marks4).getD i 0)) := fun i hi => by
    have := h1.cellsAt i (by simp [marks4]; omega)
    rwa [Nat.zero_add] at this
  have m0 : w.cell? ⟨g, l.length, none⟩ = some (.int .u8 192) := by rw [hcl l.length (by omega)]; simp [marks4]
  have m1 : w.cell? ⟨g, l.length + 1, none⟩ = some (.int .u8 193) := by rw [hcl (l.length + 1) (by omega)]; simp [marks4]
  have m2 : w.cell? ⟨g, l.length + 2, none⟩ = some (.int .u8 194) := by rw [hcl (l.length + 2) (by omega)]; simp [marks4]
  have m3 : w.cell? ⟨g, l.length + 3, none⟩ = some (.int .u8 195) := by rw [hcl (l.length + 3) (by omega)]; simp [marks4]
  have HCL : Hid (∀ i, i < l.length → w.cell? ⟨g, i, none⟩ = some (.int .u8 (l.getD i 0))) := fun i hi => by
    rw [hcl i (by omega)]; simp [hi, List.getElem?_append_left]
  have H2 := hide h2
  obtain ⟨ao, cap, rfl, hlc, hcm, _⟩ := h2
  unfold maxLen at hcm
  clear hcl h1
  go_enter Tryz.func12, Tryz.ntmps12
  go_wp2
  go_loopw [6] (fun i wr => ∃ k n : Nat, k ≤ l.length ∧ i = .int .i64 k ∧ wr = w.drewN n) (fun i _ => l.length - (intOf i).toNat)
  case atStart => exact ⟨0, 0, Nat.zero_le _, rfl, rfl⟩
  case round =>
    obtain ⟨k, n, hk, rfl, rfl⟩ := hrel
    by_cases hlt : k < l.length
    · obtain ⟨x, hx, hcell⟩ : ∃ x : Addr, ao = some x ∧ ∀ i, i < l.length → w.cell? (x.add i) = some (.int .u8 (l.getD i 0)) := by
        obtain ⟨ao', cap', he, a1, a2, a3, a4⟩ := H2.out
        simp only [Value.slice.injEq] at he
        obtain ⟨rfl, _, rfl⟩ := he
        cases ao with
        | none => have := a3 rfl; omega
        | some x => exact ⟨x, rfl, a4 x rfl⟩
      subst hx
      obtain ⟨b, o, rfl⟩ := addr_lit (hcell 0 (by omega))
      obtain ⟨y, c1, c2⟩ : ∃ y, w.cell? ⟨g, k, none⟩ = some (.int .u8 y) ∧ w.cell? ⟨b, o + k, none⟩ = some (.int .u8 y) := ⟨_, HCL.out k hlt, by have := hcell k hlt; rwa [Addr.add_lit] at this⟩
      clear hcell
      go_wp2
      go_quiet (fail)
      go_wp2
      go_roundw
      case rel => exact ⟨k + 1, _, by omega, by go_num, rfl⟩
      case measure => simp [intOf]; omega
    · go_wp2
      go_ret
      exact ⟨rfl, _, rfl⟩

end Go.Proofs.YtpmgnpfpnkmmbaaGreatDoor

