import Derived.Test.YtdpoggapenjjfaaGreatDoorG11Ifb
import Derived.Defers
import Derived.Recover
import Derived.Test.YtdpoggapenjjfaaGreatDoorG34Ifj
import Derived.Test.YtdpoggapenjjfaaGreatDoorG13Ifp
import Derived.Test.YtdpoggapenjjfaaGreatDoorG33Vak
import Derived.OwnWalk
import Derived.BigQuiet
import Derived.Deep.QuietTactic
import Derived.Test.YtdpoggapenjjfaaGreatDoorG29Vac
import Derived.Test.YtdpoggapenjjfaaGreatDoorG31Vai
namespace Go.Proofs.YtdpoggapenjjfaaGreatDoor
open Go.RowKit Go.Maps
set_option maxRecDepth 20000
set_option linter.unusedVariables false

theorem cau_idle (p : Addr) (w : World) :
    CallsD Tryz.prog 23 #[.pointer (some p)] .returning w fun e u' w' => e = .returned (.tuple #[]) ∧ u' = .returning ∧ w' = w := by
  refine callsD_of_wpS Tryz.func23 rfl fun c₀ cs hu => ?_
  apply wpS_seq
  apply wpS_region
  simp [wpOpsS, go_sem, recoverD, hu, Tryz.ntmps23, Exit.thenS]
  refine wpS_of_wp ?_
  have hn : ∀ w : World, (binOp BinOp.eql 20 .nilIface .nilIface).run Tryz.prog w = .ok (.bool true) w := fun _ => by kernel_rfl
  go_wp2
  cases c₀
  simp_all [bodyPostS, results, Tryz.results23]

set_option maxHeartbeats 2000000 in
theorem cau_fault (b : Nat) (E x : Int) (older : List PanicEntry) (w : World) (hc : w.cell? ⟨b, 0, none⟩ = some (.int .i64 x)) (hz : w.frozen? ⟨b, 0, none⟩ = false) (hb : b < w.heap.size) :
    CallsD Tryz.prog 23 #[.pointer (some ⟨b, 0, none⟩)] (.panicking ({ v := .iface 59 (.agg #[.int .i64 E]), recovered := false } :: older)) w fun e u' w' =>
      e = .returned (.tuple #[]) ∧ u' = .panicking ({ v := .iface 59 (.agg #[.int .i64 E]), recovered := true } :: older) ∧ w' = (w.setCell ⟨b, 0, none⟩ (.int .i64 E)).alloc (.cells #[.int .i64 E] 59) := by
  refine callsD_of_wpS Tryz.func23 rfl fun c₀ cs hu => ?_
  apply wpS_seq
  apply wpS_region
  simp [wpOpsS, go_sem, recoverD, hu, Tryz.ntmps23, Exit.thenS]
  refine wpS_of_wp ?_
  have hta : ∀ w : World, (Instr.typeAssert (.iface 59 (.agg #[.int .i64 E])) 20 59 true).run Tryz.prog w = .ok (.tuple #[.agg #[.int .i64 E], .bool true]) w := fun _ => by kernel_rfl
  have hc1 : (w.alloc (.cells #[.int .i64 E] 59)).cell? ⟨b, 0, none⟩ = some (.int .i64 x) := by rw [((Below.refl w.heap.size w).alloc (Nat.le_refl _) _).cell hb]; exact hc
  have hz1 : (w.alloc (.cells #[.int .i64 E] 59)).frozen? ⟨b, 0, none⟩ = false := by
    rw [((Below.refl w.heap.size w).alloc (Nat.le_refl _) _).frozen hb]; exact hz
  have hne : ¬ b = w.heap.size := by omega
  have hne2 : ¬ w.heap.size = b := by omega
  go_wp2
  cases c₀
  simp_all [bodyPostS, results, Tryz.results23]

theorem hcaught (w : World) (fid : Nat) (caps : Array Value) (hcf : ∀ w : World, (callFunc fid caps).run Tryz.prog w = .ok (.enter fid caps) w) (R : World → Prop) (R' : Int → World → Prop)
    (hC : Calls Tryz.prog fid caps (w.alloc (.cells #[.int .i64 0] 51)) fun e w' => (e = .returned (.tuple #[]) ∧ R w') ∨ ∃ E, e = flt E ∧ R' E w')
    (h1 : ∀ w', R w' → w'.cell? ⟨w.heap.size, 0, none⟩ = some (.int .i64 0) ∧ w'.frozen? ⟨w.heap.size, 0, none⟩ = false ∧ w.heap.size < w'.heap.size)
    (h2 : ∀ E w', R' E w' → w'.cell? ⟨w.heap.size, 0, none⟩ = some (.int .i64 0) ∧ w'.frozen? ⟨w.heap.size, 0, none⟩ = false ∧ w.heap.size < w'.heap.size) :
    Calls Tryz.prog 16 #[.func (.func fid) #[] caps] w fun e w' => (e = .returned (.int .i64 0) ∧ ∃ w1, R w1 ∧ w' = w1.setCell ⟨w.heap.size, 0, none⟩ (.int .i64 0)) ∨ ∃ E w1, e = .returned (.int .i64 E) ∧ R' E w1 ∧ w' = (w1.setCell ⟨w.heap.size, 0, none⟩ (.int .i64 E)).alloc (.cells #[.int .i64 E] 59) := by
  have hmf : ∀ (fn : Fn) (first cap : Array Value) (w : World), (Instr.makeFunc fn first cap).run Tryz.prog w = .ok (.func fn first cap) w := fun _ _ _ _ => rfl
  have HC := hide hC
  clear hC
  go_enter_defers Tryz.func16, Tryz.ntmps16
  go_wp2_with fail
  refine HC.out.mono ?_
  rintro e w1 (⟨rfl, hR⟩ | ⟨E, rfl, hR⟩)
  · obtain ⟨a1, a2, a3⟩ := h1 _ hR
    have HR := hide hR
    have b1 : (w1.setCell ⟨w.heap.size, 0, none⟩ (.int .i64 0)).cell? ⟨w.heap.size, 0, none⟩ = some (.int .i64 0) := World.cell?_setCell_same _ _ _ a1
    clear hR
    go_wp2
    refine leaves_cons (f := 23) (args := #[.pointer (some ⟨w.heap.size, 0, none⟩)]) (by simp) (by simp [go_sem]) ?_
    refine (cau_idle ⟨w.heap.size, 0, none⟩ _).mono ?_
    rintro e u' w'' ⟨rfl, rfl, rfl⟩
    refine ⟨.int .i64 0, by simp [results, Tryz.results16, go_sem, b1], .inl ⟨rfl, w1, HR.out, rfl⟩⟩
  · obtain ⟨a1, a2, a3⟩ := h2 _ _ hR
    have HR := hide hR
    have b1 : (w1.setCell ⟨w.heap.size, 0, none⟩ (.int .i64 E)).cell? ⟨w.heap.size, 0, none⟩ = some (.int .i64 E) := World.cell?_setCell_same _ _ _ a1
    have b2 : ((w1.setCell ⟨w.heap.size, 0, none⟩ (.int .i64 E)).alloc (.cells #[.int .i64 E] 59)).cell? ⟨w.heap.size, 0, none⟩ = some (.int .i64 E) := by
      rw [((Below.refl (w1.setCell ⟨w.heap.size, 0, none⟩ (.int .i64 E)).heap.size (w1.setCell ⟨w.heap.size, 0, none⟩ (.int .i64 E))).alloc (Nat.le_refl _) _).cell (by rw [size_setCell]; exact a3)]
      exact b1
    clear hR
    go_wp2
    refine leaves_cons (f := 23) (args := #[.pointer (some ⟨w.heap.size, 0, none⟩)]) (by simp) (by simp [go_sem]) ?_
    refine (cau_fault w.heap.size E 0 [] _ a1 a2 a3).mono ?_
    rintro e u' w'' ⟨rfl, rfl, rfl⟩
    refine ⟨.int .i64 E, by simp [results, Tryz.results16, go_sem, b2], .inr ⟨E, w1, rfl, HR.out, rfl⟩⟩
end Go.Proofs.YtdpoggapenjjfaaGreatDoor

namespace Go.Proofs.YtdpoggapenjjfaaGreatDoor
open Go.RowKit Go.Maps
set_option maxRecDepth 20000
set_option linter.unusedVariables false

theorem hmayBe (a : Option Addr) (n c : Nat) (limit : Int) (w : World) (b : Bool) (hb : decide (n ≤ 33554432 ∧ 0 ≤ limit ∧ limit ≤ 16777216) = b) :
    Calls Tryz.prog 11 #[.slice a n c, .int .i64 limit] w fun e w' => e = .returned (.bool b) ∧ w' = w := by
  go_enter Tryz.func11, Tryz.ntmps11
  by_cases c0 : n ≤ 33554432
  · have h0 : (n : Int) ≤ 33554432 := by omega
    by_cases c1 : 0 ≤ limit
    · by_cases c2 : limit ≤ 16777216
      · obtain rfl : b = true := by rw [← hb]; exact decide_eq_true ⟨c0, c1, c2⟩
        clear hb
        go_wp2
        go_ret
        exact ⟨rfl, rfl⟩
      · obtain rfl : b = false := by rw [← hb]; exact decide_eq_false (by omega)
        clear hb
        go_wp2
        go_ret
        exact ⟨rfl, rfl⟩
    · obtain rfl : b = false := by rw [← hb]; exact decide_eq_false (by omega)
      clear hb
      go_wp2
      go_ret
      exact ⟨rfl, rfl⟩
  · have h0 : ¬ ((n : Int) ≤ 33554432) := by omega
    obtain rfl : b = false := by rw [← hb]; exact decide_eq_false (by omega)
    clear hb
    go_wp2
    go_ret
    exact ⟨rfl, rfl⟩

theorem Herd.swap {W w : World} {a b : (Nat → Nat) × Thing} (h : Herd W w [a, b]) : Herd W w [b, a] := by
  have f : ∀ (i : Nat) (d : (Nat → Nat) × Thing), [b, a][i]? = some d → ([a, b] : List ((Nat → Nat) × Thing))[1 - i]? = some d ∧ i < 2 := fun i d hd => by
    match i with
    | 0 => exact ⟨hd, by omega⟩
    | 1 => exact ⟨hd, by omega⟩
    | n + 2 => simp at hd
  exact ⟨h.bel, fun i d hd => h.rep _ d (f i d hd).1, fun i d hd => h.up _ d (f i d hd).1, fun i j d e hd he hij => h.sep _ _ d e (f i d hd).1 (f j e he).1 (by have := (f i d hd).2; have := (f j e he).2; omega)⟩

set_option maxHeartbeats 1000000 in
theorem hbegin {w : World} {v : Value} {l : List Int} (h : SB w v l) (hB : Byt l) (limit : Int) :
    Calls Tryz.prog 15 #[v, .int .i64 limit] w fun e w' => ((l.length ≤ 33554432 ∧ 0 ≤ limit ∧ limit ≤ 16777216) ∧ ∃ g r, e = .returned (.pointer (some ⟨g, 0, none⟩)) ∧ TX w w' g r (unpack l) 0 limit.toNat [] false []) ∨ (¬ (l.length ≤ 33554432 ∧ 0 ≤ limit ∧ limit ≤ 16777216) ∧ Off w 1 e w') := by
  have HS := hide h
  obtain ⟨a, c, rfl, -⟩ := h
  have HM := hide (hmayBe a l.length c limit w _ rfl)
  have HB := hide hB
  clear hB
  go_enter Tryz.func15, Tryz.ntmps15
  go_wp2_with fail
  refine HM.out.mono ?_
  rintro e w1 ⟨rfl, hw1⟩
  subst hw1
  by_cases hc : l.length ≤ 33554432 ∧ 0 ≤ limit ∧ limit ≤ 16777216
  · rw [decide_eq_true hc]
    have HC := hide hc
    have HR := hide (hnewR (Herd.nil w1) _ l HS.out HB.out hc.1)
    clear hc
    go_wp2_with fail
    refine HR.out.mono ?_
    rintro e w2 ⟨r, K, rfl, h2⟩
    obtain ⟨L, HL⟩ : ∃ L : Nat, Hid ((L : Int) = limit) := ⟨limit.toNat, by show _ = _; have := HC.out; omega⟩
    have hL : L ≤ 16777216 := by have := HC.out; have := HL.out; omega
    have HLT : Hid (limit.toNat = L) := by show _ = _; have := HL.out; omega
    obtain ⟨K3, h3⟩ := h2.box1 (txO r none 0 0 L false none none)
    have h4 := Herd.swap h3
    have h5 : Herd w1 (w2.alloc (txO r none 0 0 L false none none)) [(K3, tb w2.heap.size (txO r none 0 0 L false none none)), (K, tr r (unpack l) 0), (fun _ => 0, tl (.slice none 0 0) [])] :=
      h4.push (Below.refl _ _) ⟨World.ownsRow_nil _ _ _ _, fun k hk => by simp [Value.ownBlock] at hk, fun k hk => absurd rfl hk⟩ fun k hk => absurd rfl hk
    have HX : Hid (TX w1 (w2.alloc (txO r none 0 0 L false none none)) w2.heap.size r (unpack l) 0 L [] false []) := ⟨_, _, _, none, 0, none, none, h5, .inl ⟨rfl, rfl⟩, Nat.zero_le _, hL⟩
    rw [← HL.out]
    clear h2 h3 h4 h5 HR HM
    go_wp2
    go_ret
    rw [HLT.out]
    exact .inl ⟨HC.out, w2.heap.size, r, rfl, HX.out⟩
  · rw [decide_eq_false hc]
    have HC := hide hc
    clear hc HM
    go_wp2_with fail
    refine (giveUp_any 1 _).mono ?_
    rintro e w2 ⟨rfl, rfl⟩
    go_wp2
    exact ⟨rfl, .inr ⟨HC.out, rfl, Below.refl _ _⟩⟩

theorem ob_up {w : World} {v : Value} {l : List Int} {B : Nat} (h : OB w 0 v l) (hk : ∀ k, v.ownBlock = some k → B ≤ k) : OB w B v l := by
  obtain ⟨h0, h1⟩ := h
  refine ⟨h0, ?_⟩
  rcases h1 with h1 | ⟨g, cap, cur, rfl, h2, h3⟩
  · exact .inl h1
  · exact .inr ⟨g, cap, cur, rfl, hk g rfl, h3⟩

theorem TX.own {W w : World} {g r : Nat} {row : List Int} {p L : Nat} {out : List Int} {dn : Bool} {ys : List ((Nat → Nat) × Thing)} (H : TX W w g r row p L out dn ys) : ∃ a c, w.cell? ⟨g, 1, none⟩ = some (.slice a out.length c) ∧ OB w W.heap.size (.slice a out.length c) out := by
  obtain ⟨Kt, Kr, Ko, a, c, fl, fd, HH, hf, hk⟩ := H
  have h2 : (tl (.slice a out.length c) out).P w Ko := HH.rep 2 _ rfl
  exact ⟨a, c, (txO_cells (HH.tbat 0 rfl)).2.1, ob_up h2.1 fun k hk => HH.up 2 _ rfl k (h2.2.1 k hk)⟩

end Go.Proofs.YtdpoggapenjjfaaGreatDoor

namespace Go.Proofs.YtdpoggapenjjfaaGreatDoor
open Go.RowKit Go.Maps
set_option maxRecDepth 20000
set_option linter.unusedVariables false

theorem one_cell {w : World} {g : Nat} {z : Value} {t : TypeId} (h : w.heap[g]? = some (.cells #[z] t (0, 0))) : w.cell? ⟨g, 0, none⟩ = some z ∧ w.frozen? ⟨g, 0, none⟩ = false := by
  constructor
  · unfold World.cell?; rw [h]; rfl
  · unfold World.frozen?; rw [h]; rfl

end Go.Proofs.YtdpoggapenjjfaaGreatDoor

namespace Go.Proofs.YtdpoggapenjjfaaGreatDoor
open Go.RowKit Go.Maps
set_option maxRecDepth 20000
set_option linter.unusedVariables false

theorem SX.own {W w : World} {g r : Nat} {row : List Int} {p L : Nat} {out : List Int} {wh : List (Array Value)} {us : Int} {dn : Bool} {er : Int} {ys : List ((Nat → Nat) × Thing)} (H : SX W w g r row p L out wh us dn er ys) : ∃ a c aw cw, w.heap[g]? = some (stO r L a out.length c aw wh.length cw us dn er) ∧ OB w W.heap.size (.slice a out.length c) out ∧ (ORp 36 6 w 0 (.slice aw wh.length cw) wh ∧ ∀ k, (Value.slice aw wh.length cw).ownBlock = some k → W.heap.size ≤ k) ∧ Below W.heap.size W w := by
  obtain ⟨Kt, Kr, Ko, Kw, a, c, aw, cw, HH, hk⟩ := H
  have h2 : (tl (.slice a out.length c) out).P w Ko := HH.rep 2 _ rfl
  have h3 : (tor (.slice aw wh.length cw) wh).P w Kw := HH.rep 3 _ rfl
  exact ⟨a, c, aw, cw, HH.tbat 0 rfl, ob_up h2.1 (fun k hk => HH.up 2 _ rfl k (h2.2.1 k hk)), ⟨h3.1, fun k hk => HH.up 3 _ rfl k (h3.2.1 k hk)⟩, HH.bel⟩

end Go.Proofs.YtdpoggapenjjfaaGreatDoor

namespace Go.Proofs.YtdpoggapenjjfaaGreatDoor
open Go.RowKit Go.Maps
set_option maxRecDepth 20000
set_option linter.unusedVariables false

def pcq (b : Pc) : Array Value := #[.int .i64 b.kind, .bool b.fin, .int .i64 b.at0, .int .i64 b.at1, .int .i64 b.to0, .int .i64 b.to1]

def tpq (v : Value) (R : List (Array Value)) : Thing :=
  ⟨fun w K => ORp 36 6 w 0 v R ∧ (∀ k, v.ownBlock = some k → K k ≠ 0) ∧ ∀ k, K k ≠ 0 → k < w.heap.size,
   fun h a b => ⟨h.1.move fun k hk => b k (h.2.1 k hk), h.2.1, fun k hk => Nat.lt_of_lt_of_le (h.2.2 k hk) a⟩, fun h => h.2.2⟩

end Go.Proofs.YtdpoggapenjjfaaGreatDoor

namespace Go.Proofs.YtdpoggapenjjfaaGreatDoor
open Go.RowKit Go.Maps
set_option maxRecDepth 20000
set_option linter.unusedVariables false

/-! What Blocks tells, in numbers: the blocks of a text up to the first that is not whole, each with its bytes. -/

theorem Sys.pre {l d row : List Int} {L p : Nat} {out : List Int} {e : Int} {q : Nat} {o : List Int} (h : Sys l d row L p out e q o) : ∃ s, o = out ++ s := by
  induction h with
  | bad h1 h2 => exact ⟨[], by simp⟩
  | fin h1 => exact sy1_pre h1
  | go h1 h2 ih =>
    obtain ⟨s, hs⟩ := sy1_pre h1
    obtain ⟨t, ht⟩ := ih
    exact ⟨s ++ t, by rw [ht, hs, List.append_assoc]⟩

theorem st1_pre {row : List Int} {L p : Nat} {out : List Int} {e : Int} {q : Nat} {o : List Int} (h : st1 row L p out = (e, q, o)) : ∃ s, o = out ++ s := by
  unfold st1 at h
  by_cases c0 : row.length < algn p + 32
  · rw [if_pos c0] at h; injection h with _ h; injection h with _ h; exact ⟨[], by rw [← h, List.append_nil]⟩
  rw [if_neg c0] at h
  by_cases c1 : ahead row (algn p) 16 + ahead row (algn p + 16) 16 ≠ 65535
  · rw [if_pos c1] at h; injection h with _ h; injection h with _ h; exact ⟨[], by rw [← h, List.append_nil]⟩
  rw [if_neg c1] at h
  by_cases c2 : L < out.length + (ahead row (algn p) 16).toNat
  · rw [if_pos c2] at h; injection h with _ h; injection h with _ h; exact ⟨[], by rw [← h, List.append_nil]⟩
  rw [if_neg c2] at h
  by_cases c3 : row.length < algn p + 32 + 8 * (ahead row (algn p) 16).toNat
  · rw [if_pos c3] at h; injection h with _ h; injection h with _ h; exact ⟨[], by rw [← h, List.append_nil]⟩
  rw [if_neg c3] at h
  injection h with _ h
  injection h with _ h
  exact ⟨_, h.symm⟩

theorem Blk.pre {row : List Int} {L p : Nat} {out : List Int} {f : Bool} {k : Int} {q : Nat} {o : List Int} {e : Int} (h : Blk row L p out e f k q o) : ∃ s, o = out ++ s := by
  cases h with
  | short h1 => exact ⟨[], by simp⟩
  | three h1 h2 => exact ⟨[], by simp⟩
  | stored h1 h2 h3 => exact st1_pre h3
  | fixed h1 h2 h3 => exact h3.pre
  | head h1 h2 h3 => exact ⟨[], by simp⟩
  | dyn h1 h2 h3 h4 => exact h4.pre

theorem Blk.kind {row : List Int} {L p : Nat} {out : List Int} {f : Bool} {k : Int} {q : Nat} {o : List Int} {e : Int} (h : Blk row L p out e f k q o) (he : e = 0) : 0 ≤ k ∧ k ≤ 2 := by
  cases h with
  | short h1 => cases he
  | three h1 h2 => cases he
  | stored h1 h2 h3 => omega
  | fixed h1 h2 h3 => omega
  | head h1 h2 h3 => exact absurd he h3
  | dyn h1 h2 h3 h4 => omega

theorem Blk.lt3 {row : List Int} {L p : Nat} {out : List Int} {f : Bool} {k : Int} {q : Nat} {o : List Int} {e : Int} (hb : Bit row) (h : Blk row L p out e f k q o) (he : e = 0) : p + 3 ≤ q := by
  cases h with
  | short h1 => cases he
  | three h1 h2 => cases he
  | stored h1 h2 h3 => subst he; have := st1_lt hb h3; omega
  | fixed h1 h2 h3 => have := h3.lt hb fl_ok he; omega
  | head h1 h2 h3 => exact absurd he h3
  | dyn h1 h2 h3 h4 =>
    have := h4.lt hb (rd_good hb h3).1 he
    have := rd_le h3
    omega

inductive Chn (d : Bool) : Nat → Nat → List Pc → Nat → Nat → Prop
  | nil {a n : Nat} : d = false → Chn d a n [] a n
  | last {a n b z : Nat} {k : Int} : d = true → 0 ≤ k → k ≤ 2 → a + 3 ≤ b → n ≤ z → Chn d a n [⟨k, true, a, b, n, z⟩] b z
  | go {a n q m b z : Nat} {k : Int} {ps : List Pc} : 0 ≤ k → k ≤ 2 → a + 3 ≤ q → n ≤ m → Chn d q m ps b z → Chn d a n (⟨k, false, a, q, n, m⟩ :: ps) b z

theorem Txt.chn {row : List Int} {L p : Nat} {out : List Int} {ps : List Pc} {e : Int} {q : Nat} {o : List Int} (hb : Bit row) (h : Txt row L p out ps e q o) : Chn (e == 0) p out.length ps q o.length := by
  induction h with
  | bad h1 h2 => exact Chn.nil (by simpa using h2)
  | last h1 =>
    have a := h1.lt hb rfl
    have k := h1.kind rfl
    exact Chn.last rfl k.1 k.2 (h1.lt3 hb rfl) (by omega)
  | go h1 h2 ih =>
    have a := h1.lt hb rfl
    have k := h1.kind rfl
    exact Chn.go k.1 k.2 (h1.lt3 hb rfl) (by omega) ih

theorem Txt.pre {row : List Int} {L p : Nat} {out : List Int} {ps : List Pc} {e : Int} {q : Nat} {o : List Int} (h : Txt row L p out ps e q o) : ∃ s, o = out ++ s := by
  induction h with
  | bad h1 h2 => exact ⟨[], by simp⟩
  | last h1 => exact h1.pre
  | go h1 h2 ih =>
    obtain ⟨s, hs⟩ := h1.pre
    obtain ⟨t, ht⟩ := ih
    exact ⟨s ++ t, by rw [ht, hs, List.append_assoc]⟩

theorem Txt.le {row : List Int} {L p : Nat} {out : List Int} {ps : List Pc} {e : Int} {q : Nat} {o : List Int} (hb : Bit row) (h : Txt row L p out ps e q o) : p ≤ row.length → out.length ≤ L → q ≤ row.length ∧ o.length ≤ L := by
  induction h with
  | bad h1 h2 => exact fun a b => ⟨a, b⟩
  | last h1 => intro a b; have := h1.lt hb rfl; omega
  | go h1 h2 ih => intro a b; have := h1.lt hb rfl; exact ih (by omega) (by omega)

def sgb (o : List Int) (x : Pc) : List Int := (o.drop x.to0).take (x.to1 - x.to0)

theorem sg_at {out s t : List Int} {x : Pc} (h0 : x.to0 = out.length) (h1 : x.to1 = (out ++ s).length) : sgb (out ++ s ++ t) x = s := by
  unfold sgb
  rw [h0, h1, List.append_assoc, List.drop_left, List.length_append, Nat.add_sub_cancel_left, List.take_left]

end Go.Proofs.YtdpoggapenjjfaaGreatDoor

namespace Go.Proofs.YtdpoggapenjjfaaGreatDoor
open Go.RowKit Go.Maps
set_option maxRecDepth 20000
set_option linter.unusedVariables false

/-! A text under way beside memory that another one changes between its blocks. -/

def wtake (w : World) (B : Nat) : World := { w with heap := w.heap.extract 0 B }
theorem wtake_size {w : World} {B : Nat} (h : B ≤ w.heap.size) : (wtake w B).heap.size = B := by
  show (w.heap.extract 0 B).size = B
  rw [Array.size_extract]; omega
theorem wtake_at {w : World} {B k : Nat} (hk : k < B) : (wtake w B).heap[k]? = w.heap[k]? := by
  show (w.heap.extract 0 B)[k]? = _
  rw [Array.getElem?_extract]
  by_cases h : k < w.heap.size
  · rw [if_pos (by omega)]; simp
  · rw [if_neg (by omega)]; exact (Array.getElem?_eq_none (by omega)).symm
theorem wtake_below {w : World} {B : Nat} (h : B ≤ w.heap.size) : Below B (wtake w B) w := ⟨rfl, rfl, rfl, by rw [wtake_size h]; exact h, fun k hk => (wtake_at hk).symm⟩
theorem below_wtake {w0 w : World} {B : Nat} (h : Below w0.heap.size w0 w) (h1 : w0.heap.size ≤ B) (h2 : B ≤ w.heap.size) : Below w0.heap.size w0 (wtake w B) :=
  ⟨h.os, h.tape, h.output, by rw [wtake_size h2]; exact h1, fun k hk => (wtake_at (by omega)).trans (h.block k hk)⟩

def tkp (w0 : World) : Thing :=
  ⟨fun w K => w0.heap.size ≤ w.heap.size ∧ (∀ k, K k ≠ 0 → w.heap[k]? = w0.heap[k]?) ∧ ∀ k, K k ≠ 0 → k < w.heap.size,
   fun h a b => ⟨Nat.le_trans h.1 a, fun k hk => (b k hk).trans (h.2.1 k hk), fun k hk => Nat.lt_of_lt_of_le (h.2.2 k hk) a⟩, fun h => h.2.2⟩

theorem tkp_td (w0 : World) (gl : Nat) (l : List Int) : tkp w0 ≠ td gl l := by
  intro e
  have h : (tkp w0).P { w0 with heap := Array.replicate w0.heap.size (.deferred none) } (fun _ => 0) :=
    ⟨by simp, fun k hk => absurd rfl hk, fun k hk => absurd rfl hk⟩
  rw [e] at h
  have hd : Dp { w0 with heap := Array.replicate w0.heap.size (.deferred none) } (fun _ => 0) gl l := h
  obtain ⟨vl, vw, vs, sy, a1, _⟩ := hd.d
  have a2 : (Array.replicate w0.heap.size (Obj.deferred none))[gl]? = _ := a1
  rw [Array.getElem?_replicate] at a2
  split at a2
  · injection a2 with a2; cases a2
  · cases a2

theorem Herd.guest {W w : World} {xs : List ((Nat → Nat) × Thing)} (h : Herd W w xs) {K : Nat → Nat} {x : Thing} (hr : x.P w K) (hu : ∀ k, K k ≠ 0 → W.heap.size ≤ k) (hx : ∀ d, d ∈ xs → ∀ k, d.1 k ≠ 0 → K k = 0) : Herd W w (xs ++ [(K, x)]) := by
  refine ⟨h.bel, fun i d hd => ?_, fun i d hd k hk => ?_, fun i j d e hd he hne k hk => ?_⟩
  · rcases get_snoc hd with hd | ⟨_, rfl⟩
    · exact h.rep i d hd
    · exact hr
  · rcases get_snoc hd with hd | ⟨_, rfl⟩
    · exact h.up i d hd k hk
    · exact hu k hk
  · rcases get_snoc hd with hd | ⟨e1, rfl⟩
    · rcases get_snoc he with he | ⟨e2, rfl⟩
      · exact h.sep i j d e hd he hne k hk
      · exact hx d (List.mem_of_getElem? hd) k hk
    · rcases get_snoc he with he | ⟨e2, rfl⟩
      · by_cases e0 : e.1 k = 0
        · exact e0
        · exact absurd (hx e (List.mem_of_getElem? he) k e0) hk
      · omega

theorem Herd.pickf {W w : World} {xs ys : List ((Nat → Nat) × Thing)} (h : Herd W w xs) (f : Nat → Nat) (hf : ∀ (i : Nat) (d : (Nat → Nat) × Thing), ys[i]? = some d → xs[f i]? = some d) (hi : ∀ i j, i ≠ j → f i ≠ f j) : Herd W w ys :=
  ⟨h.bel, fun i d hd => h.rep _ d (hf i d hd), fun i d hd => h.up _ d (hf i d hd), fun i j d e hd he hij => h.sep _ _ d e (hf i d hd) (hf j e he) (hi i j hij)⟩

def skip (n i : Nat) : Nat := if i < n then i else i + 1
theorem skip_ne (n i j : Nat) (h : i ≠ j) : skip n i ≠ skip n j := by unfold skip; split <;> split <;> omega
theorem skip_no (n i : Nat) : skip n i ≠ n := by unfold skip; split <;> omega
theorem skip_get {α : Type} {xs zs : List α} {z d : α} {i : Nat} (h : (xs ++ zs)[i]? = some d) : (xs ++ z :: zs)[skip xs.length i]? = some d := by
  unfold skip
  by_cases hi : i < xs.length
  · rw [if_pos hi, List.getElem?_append_left hi]
    rw [List.getElem?_append_left hi] at h
    exact h
  · rw [if_neg hi, List.getElem?_append_right (by omega)]
    rw [List.getElem?_append_right (by omega)] at h
    rw [show i + 1 - xs.length = (i - xs.length) + 1 by omega, List.getElem?_cons_succ]
    exact h

structure Mvb (S : Nat → Prop) (w w' : World) : Prop where
  os : w'.os = w.os
  tape : w'.tape = w.tape
  output : w'.output = w.output
  size : w.heap.size ≤ w'.heap.size
  blk : ∀ b, b < w.heap.size → ¬ S b → w'.heap[b]? = w.heap[b]?

def grb (S : Nat → Prop) (w w' : World) (b : Nat) : Prop := S b ∨ (w.heap.size ≤ b ∧ b < w'.heap.size)

abbrev txL (Kt Kr Ko : Nat → Nat) (g r : Nat) (row : List Int) (p L : Nat) (out : List Int) (dn : Bool) (a : Option Addr) (c : Nat) (fl fd : Option Addr) (ys : List ((Nat → Nat) × Thing)) : List ((Nat → Nat) × Thing) :=
  (Kt, tb g (txO r a out.length c L dn fl fd)) :: (Kr, tr r row p) :: (Ko, tl (.slice a out.length c) out) :: ys

def Ist (S : Nat → Prop) (B : Nat) (w : World) (g r : Nat) (row : List Int) (p L : Nat) (out : List Int) (dn : Bool) : Prop :=
  ∃ W Kt Kr Ko a c fl fd ys, W.heap.size = B ∧ Herd W w (txL Kt Kr Ko g r row p L out dn a c fl fd ys) ∧ Fx ys fl fd ∧ (out.length ≤ L ∧ L ≤ 16777216) ∧ ∀ d, d ∈ txL Kt Kr Ko g r row p L out dn a c fl fd ys → ∀ k, d.1 k ≠ 0 → S k

theorem Ist.size {S : Nat → Prop} {B : Nat} {w : World} {g r : Nat} {row : List Int} {p L : Nat} {out : List Int} {dn : Bool} (h : Ist S B w g r row p L out dn) : B ≤ w.heap.size := by
  obtain ⟨W, Kt, Kr, Ko, a, c, fl, fd, ys, hW, HH, -⟩ := h
  have := HH.bel.size; omega

theorem Ist.move {S S' : Nat → Prop} {B : Nat} {w w' : World} {g r : Nat} {row : List Int} {p L : Nat} {out : List Int} {dn : Bool} (h : Ist S B w g r row p L out dn) (hs : w.heap.size ≤ w'.heap.size) (hk : ∀ b, S b → w'.heap[b]? = w.heap[b]?) (hS : ∀ b, S b → S' b) : Ist S' B w' g r row p L out dn := by
  have hB := h.size
  obtain ⟨W, Kt, Kr, Ko, a, c, fl, fd, ys, hW, HH, hf, hL, hSS⟩ := h
  have hz : (wtake w' B).heap.size = B := wtake_size (by omega)
  refine ⟨wtake w' B, Kt, Kr, Ko, a, c, fl, fd, ys, hz, ⟨by rw [hz]; exact wtake_below (by omega), fun i d hd => ?_, fun i d hd k q => ?_, HH.sep⟩, hf, hL, fun d hd k q => hS k (hSS d hd k q)⟩
  · exact d.2.far (HH.rep i d hd) hs fun k q => hk k (hSS d (List.mem_of_getElem? hd) k q)
  · rw [hz, ← hW]; exact HH.up i d hd k q

theorem Ist.fact {S : Nat → Prop} {B : Nat} {w : World} {g r : Nat} {row : List Int} {p L : Nat} {out : List Int} {dn : Bool} (h : Ist S B w g r row p L out dn) : Bit row ∧ p ≤ row.length ∧ row.length ≤ 268435456 ∧ row.length % 8 = 0 ∧ out.length ≤ L ∧ L ≤ 16777216 ∧ S g ∧ B ≤ g ∧
    ∃ a c fl fd, w.heap[g]? = some (txO r a out.length c L dn fl fd) ∧ OB w 0 (.slice a out.length c) out ∧ w.cell? ⟨r, 1, none⟩ = some (.int .i64 p) := by
  obtain ⟨W, Kt, Kr, Ko, a, c, fl, fd, ys, hW, HH, hf, hL, hSS⟩ := h
  have hT : TX W w g r row p L out dn ys := ⟨Kt, Kr, Ko, a, c, fl, fd, HH, hf, hL⟩
  obtain ⟨h1, h2, h3, h4⟩ := hT.rd
  have ht : (tb g (txO r a out.length c L dn fl fd)).P w Kt := HH.rep 0 _ rfl
  exact ⟨h1, h2, h3, h4, hL.1, hL.2, hSS _ (List.mem_cons_self ..) g ht.2.1, by rw [← hW]; exact HH.up 0 _ rfl g ht.2.1, a, c, fl, fd, ht.1, (HH.rep 2 _ rfl).1, hT.at⟩

theorem Fx.drop {ys zs : List ((Nat → Nat) × Thing)} {K : Nat → Nat} {w0 : World} {fl fd : Option Addr} (h : Fx (ys ++ (K, tkp w0) :: zs) fl fd) : Fx (ys ++ zs) fl fd := by
  rcases h with h | ⟨gl, gd, i, j, Kl, Kd, h1, h2, h3, h4⟩
  · exact .inl h
  · have key : ∀ {i : Nat} {Kx : Nat → Nat} {gx : Nat} {l : List Int}, (ys ++ (K, tkp w0) :: zs)[i]? = some (Kx, td gx l) → ∃ i' : Nat, (ys ++ zs)[i']? = some (Kx, td gx l) := by
      intro i Kx gx l hi
      have hm := List.mem_of_getElem? hi
      rcases List.mem_append.1 hm with hm | hm
      · exact List.getElem?_of_mem (List.mem_append.2 (.inl hm))
      · rcases List.mem_cons.1 hm with hm | hm
        · injection hm with _ hm
          exact absurd hm.symm (tkp_td w0 gx l)
        · exact List.getElem?_of_mem (List.mem_append.2 (.inr hm))
    obtain ⟨i', hi'⟩ := key h3
    obtain ⟨j', hj'⟩ := key h4
    exact .inr ⟨gl, gd, i', j', Kl, Kd, h1, h2, hi', hj'⟩

theorem hblockS {S : Nat → Prop} {B : Nat} {V : World} {g r : Nat} {row : List Int} {p L : Nat} {out : List Int} {dn : Bool} (h : Ist S B V g r row p L out dn) (T : Tab (wtake V B)) (O : Odr (wtake V B)) :
    Calls Tryz.prog 18 #[.pointer (some ⟨g, 0, none⟩)] V fun e w' => Mvb S V w' ∧ ∃ E f k q o, Blk row L p out E f k q o ∧ ((E = 0 ∧ e = .returned (.agg #[.int .i64 k, .bool f, .int .i64 p, .int .i64 q, .int .i64 out.length, .int .i64 o.length]) ∧ Ist (grb S V w') B w' g r row q L o f) ∨ (E ≠ 0 ∧ e = flt E)) := by
  have hB := h.size
  obtain ⟨Kk, hKk⟩ : ∃ Kk : Nat → Nat, ∀ k, Kk k ≠ 0 ↔ (B ≤ k ∧ k < V.heap.size ∧ ¬ S k) := by
    classical
    exact ⟨fun k => if B ≤ k ∧ k < V.heap.size ∧ ¬ S k then 1 else 0, fun k => by by_cases q : B ≤ k ∧ k < V.heap.size ∧ ¬ S k <;> simp [q]⟩
  have h0 := h.move (S' := S) (Nat.le_refl _) (fun _ _ => rfl) (fun _ q => q)
  obtain ⟨W, Kt, Kr, Ko, a, c, fl, fd, ys, hW, HH, hf, hL, hSS⟩ := h
  have hz : (wtake V B).heap.size = B := wtake_size hB
  have H1 : Herd (wtake V B) V (txL Kt Kr Ko g r row p L out dn a c fl fd ys) := ⟨by rw [hz]; exact wtake_below hB, HH.rep, fun i d hd k q => by rw [hz, ← hW]; exact HH.up i d hd k q, HH.sep⟩
  have H2 := H1.guest (K := Kk) (x := tkp V) ⟨Nat.le_refl _, fun _ _ => rfl, fun k q => ((hKk k).1 q).2.1⟩ (fun k q => by rw [hz]; exact ((hKk k).1 q).1) (fun d hd k q => by
    by_cases e0 : Kk k = 0
    · exact e0
    · exact absurd (hSS d hd k q) ((hKk k).1 e0).2.2)
  have HT : TX (wtake V B) V g r row p L out dn (ys ++ [(Kk, tkp V)]) := ⟨Kt, Kr, Ko, a, c, fl, fd, H2, hf.app, hL⟩
  have keep : ∀ w', (tkp V).P w' Kk → Below (wtake V B).heap.size (wtake V B) w' → Mvb S V w' := fun w' hk hb => by
    rw [hz] at hb
    refine ⟨hb.os, hb.tape, hb.output, hk.1, fun b h1 h2 => ?_⟩
    by_cases h3 : b < B
    · exact (hb.block b h3).trans (wtake_at h3)
    · exact hk.2.1 b ((hKk b).2 ⟨by omega, h1, h2⟩)
  refine (hblockG HT T O).mono ?_
  rintro e w' ⟨E, f, k, q, o, hblk, ⟨rfl, rfl, zs, Kt', Kr', Ko', a', c', fl', fd', H3, hf3, hL3⟩ | ⟨he, rfl, hb⟩⟩
  · have e1 : txL Kt' Kr' Ko' g r row q L o f a' c' fl' fd' (ys ++ [(Kk, tkp V)] ++ zs) = txL Kt' Kr' Ko' g r row q L o f a' c' fl' fd' ys ++ (Kk, tkp V) :: zs := by simp [txL]
    have H4 : Herd (wtake V B) w' (txL Kt' Kr' Ko' g r row q L o f a' c' fl' fd' ys ++ (Kk, tkp V) :: zs) := by rw [← e1]; exact H3
    have hn : (txL Kt' Kr' Ko' g r row q L o f a' c' fl' fd' ys ++ (Kk, tkp V) :: zs)[(txL Kt' Kr' Ko' g r row q L o f a' c' fl' fd' ys).length]? = some (Kk, tkp V) := by simp
    have hkp : (tkp V).P w' Kk := H4.rep _ _ hn
    have H5 : Herd (wtake V B) w' (txL Kt' Kr' Ko' g r row q L o f a' c' fl' fd' ys ++ zs) := H4.pickf (skip _) (fun i d hd => skip_get hd) (skip_ne _)
    refine ⟨keep w' hkp H4.bel, 0, f, k, q, o, hblk, .inl ⟨rfl, rfl, wtake V B, Kt', Kr', Ko', a', c', fl', fd', ys ++ zs, hz, H5, ?_, hL3, fun d hd m hm => ?_⟩⟩
    · refine Fx.drop (K := Kk) (w0 := V) ?_
      have e2 : ys ++ [(Kk, tkp V)] ++ zs = ys ++ (Kk, tkp V) :: zs := by simp
      rw [← e2]; exact hf3
    · obtain ⟨i, hi⟩ := List.getElem?_of_mem (show d ∈ txL Kt' Kr' Ko' g r row q L o f a' c' fl' fd' ys ++ zs from hd)
      have hs := skip_get (z := (Kk, tkp V)) hi
      have h7 := H4.sep _ _ _ _ hs hn (skip_no _ _) m hm
      have h8 := H4.up _ _ hs m hm
      have h9 := d.2.sup (H4.rep _ _ hs) m hm
      rw [hz] at h8
      by_cases hv : m < V.heap.size
      · left
        by_cases hS : S m
        · exact hS
        · exact absurd h7 ((hKk m).2 ⟨h8, hv, hS⟩)
      · exact .inr ⟨by omega, h9⟩
  · exact ⟨keep w' (hb.2 (Kk, tkp V) (by simp)) hb.1, E, f, k, q, o, hblk, .inr ⟨he, rfl⟩⟩
end Go.Proofs.YtdpoggapenjjfaaGreatDoor

