import Derived.Test.YtfoglaajnlbnbaaGreatDoorG35Ifb
import Derived.Defers
import Derived.Recover
import Derived.Test.YtfoglaajnlbnbaaGreatDoorG37Ifh
import Derived.Test.YtfoglaajnlbnbaaGreatDoorG38Ifj
namespace Go.Proofs.YtfoglaajnlbnbaaGreatDoor
open Go.RowKit Go.Maps
set_option maxRecDepth 20000
set_option linter.unusedVariables false

theorem cau_idle (p : Addr) (w : World) :
    CallsD Tryz.prog 65 #[.pointer (some p)] .returning w fun e u' w' => e = .returned (.tuple #[]) ∧ u' = .returning ∧ w' = w := by
  refine callsD_of_wpS Tryz.func65 rfl fun c₀ cs hu => ?_
  apply wpS_seq
  apply wpS_region
  simp [wpOpsS, go_sem, recoverD, hu, Tryz.ntmps65, Exit.thenS]
  refine wpS_of_wp ?_
  have hn : ∀ w : World, (binOp BinOp.eql 20 .nilIface .nilIface).run Tryz.prog w = .ok (.bool true) w := fun _ => by kernel_rfl
  go_wp2
  cases c₀
  simp_all [bodyPostS, results, Tryz.results65]

set_option maxHeartbeats 2000000 in
theorem cau_fault (b : Nat) (E x : Int) (older : List PanicEntry) (w : World) (hc : w.cell? ⟨b, 0, none⟩ = some (.int .i64 x)) (hz : w.frozen? ⟨b, 0, none⟩ = false) (hb : b < w.heap.size) :
    CallsD Tryz.prog 65 #[.pointer (some ⟨b, 0, none⟩)] (.panicking ({ v := .iface 109 (.agg #[.int .i64 E]), recovered := false } :: older)) w fun e u' w' =>
      e = .returned (.tuple #[]) ∧ u' = .panicking ({ v := .iface 109 (.agg #[.int .i64 E]), recovered := true } :: older) ∧ w' = (w.setCell ⟨b, 0, none⟩ (.int .i64 E)).alloc (.cells #[.int .i64 E] 109) := by
  refine callsD_of_wpS Tryz.func65 rfl fun c₀ cs hu => ?_
  apply wpS_seq
  apply wpS_region
  simp [wpOpsS, go_sem, recoverD, hu, Tryz.ntmps65, Exit.thenS]
  refine wpS_of_wp ?_
  have hta : ∀ w : World, (Instr.typeAssert (.iface 109 (.agg #[.int .i64 E])) 20 109 true).run Tryz.prog w = .ok (.tuple #[.agg #[.int .i64 E], .bool true]) w := fun _ => by kernel_rfl
  have hc1 : (w.alloc (.cells #[.int .i64 E] 109)).cell? ⟨b, 0, none⟩ = some (.int .i64 x) := by rw [((Below.refl w.heap.size w).alloc (Nat.le_refl _) _).cell hb]; exact hc
  have hz1 : (w.alloc (.cells #[.int .i64 E] 109)).frozen? ⟨b, 0, none⟩ = false := by
    rw [((Below.refl w.heap.size w).alloc (Nat.le_refl _) _).frozen hb]; exact hz
  have hne : ¬ b = w.heap.size := by omega
  have hne2 : ¬ w.heap.size = b := by omega
  go_wp2
  cases c₀
  simp_all [bodyPostS, results, Tryz.results65]

theorem hcaught (w : World) (fid : Nat) (caps : Array Value) (hcf : ∀ w : World, (callFunc fid caps).run Tryz.prog w = .ok (.enter fid caps) w) (R : World → Prop) (R' : Int → World → Prop)
    (hC : Calls Tryz.prog fid caps (w.alloc (.cells #[.int .i64 0] 29)) fun e w' => (e = .returned (.tuple #[]) ∧ R w') ∨ ∃ E, e = flt E ∧ R' E w')
    (h1 : ∀ w', R w' → w'.cell? ⟨w.heap.size, 0, none⟩ = some (.int .i64 0) ∧ w'.frozen? ⟨w.heap.size, 0, none⟩ = false ∧ w.heap.size < w'.heap.size)
    (h2 : ∀ E w', R' E w' → w'.cell? ⟨w.heap.size, 0, none⟩ = some (.int .i64 0) ∧ w'.frozen? ⟨w.heap.size, 0, none⟩ = false ∧ w.heap.size < w'.heap.size) :
    Calls Tryz.prog 34 #[.func (.func fid) #[] caps] w fun e w' => (e = .returned (.int .i64 0) ∧ ∃ w1, R w1 ∧ w' = w1.setCell ⟨w.heap.size, 0, none⟩ (.int .i64 0)) ∨ ∃ E w1, e = .returned (.int .i64 E) ∧ R' E w1 ∧ w' = (w1.setCell ⟨w.heap.size, 0, none⟩ (.int .i64 E)).alloc (.cells #[.int .i64 E] 109) := by
  have hmf : ∀ (fn : Fn) (first cap : Array Value) (w : World), (Instr.makeFunc fn first cap).run Tryz.prog w = .ok (.func fn first cap) w := fun _ _ _ _ => rfl
  have HC := hide hC
  clear hC
  go_enter_defers Tryz.func34, Tryz.ntmps34
  go_wp2_with fail
  refine HC.out.mono ?_
  rintro e w1 (⟨rfl, hR⟩ | ⟨E, rfl, hR⟩)
  · obtain ⟨a1, a2, a3⟩ := h1 _ hR
    have HR := hide hR
    have b1 : (w1.setCell ⟨w.heap.size, 0, none⟩ (.int .i64 0)).cell? ⟨w.heap.size, 0, none⟩ = some (.int .i64 0) := World.cell?_setCell_same _ _ _ a1
    clear hR
    go_wp2
    refine leaves_cons (f := 65) (args := #[.pointer (some ⟨w.heap.size, 0, none⟩)]) (by simp) (by simp [go_sem]) ?_
    refine (cau_idle ⟨w.heap.size, 0, none⟩ _).mono ?_
    rintro e u' w'' ⟨rfl, rfl, rfl⟩
    refine ⟨.int .i64 0, by simp [results, Tryz.results34, go_sem, b1], .inl ⟨rfl, w1, HR.out, rfl⟩⟩
  · obtain ⟨a1, a2, a3⟩ := h2 _ _ hR
    have HR := hide hR
    have b1 : (w1.setCell ⟨w.heap.size, 0, none⟩ (.int .i64 E)).cell? ⟨w.heap.size, 0, none⟩ = some (.int .i64 E) := World.cell?_setCell_same _ _ _ a1
    have b2 : ((w1.setCell ⟨w.heap.size, 0, none⟩ (.int .i64 E)).alloc (.cells #[.int .i64 E] 109)).cell? ⟨w.heap.size, 0, none⟩ = some (.int .i64 E) := by
      rw [((Below.refl (w1.setCell ⟨w.heap.size, 0, none⟩ (.int .i64 E)).heap.size (w1.setCell ⟨w.heap.size, 0, none⟩ (.int .i64 E))).alloc (Nat.le_refl _) _).cell (by rw [size_setCell]; exact a3)]
      exact b1
    clear hR
    go_wp2
    refine leaves_cons (f := 65) (args := #[.pointer (some ⟨w.heap.size, 0, none⟩)]) (by simp) (by simp [go_sem]) ?_
    refine (cau_fault w.heap.size E 0 [] _ a1 a2 a3).mono ?_
    rintro e u' w'' ⟨rfl, rfl, rfl⟩
    refine ⟨.int .i64 E, by simp [results, Tryz.results34, go_sem, b2], .inr ⟨E, w1, rfl, HR.out, rfl⟩⟩
end Go.Proofs.YtfoglaajnlbnbaaGreatDoor

namespace Go.Proofs.YtfoglaajnlbnbaaGreatDoor
open Go.RowKit Go.Maps
set_option maxRecDepth 20000
set_option linter.unusedVariables false

theorem tr_le {C row : List Int} (p : Nat) : p ≤ trP C row p := by
  unfold trP nxP
  split <;> omega

theorem rl_le {C row : List Int} (want : Nat) : ∀ f acc p, p ≤ (rl C row want f acc p).2.2
  | 0, acc, p => by simp [rl]
  | f + 1, acc, p => by
    unfold rl
    by_cases c0 : acc.length < want
    · rw [if_pos c0]
      by_cases c1 : trE C row p ≠ 0
      · rw [if_pos c1]; exact Nat.le_refl _
      · rw [if_neg c1]
        by_cases c2 : nxS C row p = 16 ∧ acc = []
        · rw [if_pos c2]; exact Nat.le_refl _
        · rw [if_neg c2]
          by_cases c3 : (want : Int) < acc.length + trC C row p
          · rw [if_pos c3]; exact Nat.le_refl _
          · rw [if_neg c3]
            exact Nat.le_trans (tr_le p) (rl_le want f _ _)
    · rw [if_neg c0]; exact Nat.le_refl _

theorem rd_le {row : List Int} {p : Nat} (h : (rdA row p).1 = 0) : p ≤ (rdA row p).2.2.2 := by
  rcases rd_cases row p with ⟨q, _⟩ | ⟨_, h1, h2, ⟨a, q⟩, hx, hk, hr⟩
  · exact absurd h q
  simp only at hx hk hr
  have := rl_le (C := smC row (p + 14) (rcN row p)) (row := row) (rcL row p + rcD row p) (rcL row p + rcD row p) [] (p + 14 + 3 * rcN row p)
  rw [hx] at this
  rw [hr]
  simp only at this ⊢
  omega

theorem sy1_go {l d row : List Int} {L p : Nat} {out : List Int} {b : Bool} {q : Nat} {o : List Int} (hb : Bit row) (hl : dcE l = 0) (h : sy1 l d row L p out = (0, b, q, o)) : p < q ∧ q ≤ row.length ∧ out.length ≤ o.length ∧ o.length ≤ max L out.length := by
  by_cases c0 : syE l row p ≠ 0
  · rw [sy1_bad c0] at h
    injection h with h
    exact absurd h c0
  have c0' : syE l row p = 0 := by omega
  obtain ⟨n1, n2, n3⟩ := nx_lt hl (sy_nx c0')
  rcases Nat.lt_trichotomy (nxS l row p) 256 with c | c | c
  · rw [sy1_lit c0' c] at h
    by_cases c1 : L < out.length + 1
    · rw [if_pos c1] at h; injection h with h; cases h
    · rw [if_neg c1] at h
      injection h with _ h
      injection h with _ h
      injection h with h1 h2
      subst h1; subst h2
      simp
      omega
  · rw [sy1_end c0' c] at h
    injection h with _ h
    injection h with _ h
    injection h with h1 h2
    subst h1; subst h2
    omega
  · rw [sy1_copy c0' c] at h
    by_cases c1 : lgE (nxS l row p) row (nxP l row p) ≠ 0
    · rw [if_pos c1] at h; injection h with h; exact absurd h c1
    rw [if_neg c1] at h
    by_cases c2 : dtE d row (lgP (nxS l row p) (nxP l row p)) ≠ 0
    · rw [if_pos c2] at h; injection h with h; exact absurd h c2
    rw [if_neg c2] at h
    have hd := dtV_le hb (by omega : dtE d row (lgP (nxS l row p) (nxP l row p)) = 0)
    by_cases c3 : agE L out (lgV (nxS l row p) row (nxP l row p)) (dtV d row (lgP (nxS l row p) (nxP l row p))) ≠ 0
    · rw [if_pos c3] at h; injection h with h; exact absurd h c3
    rw [if_neg c3] at h
    injection h with _ h
    injection h with _ h
    injection h with h1 h2
    subst h1; subst h2
    have hg : nxP l row p ≤ lgP (nxS l row p) (nxP l row p) := by unfold lgP; omega
    have ha : out.length + lgV (nxS l row p) row (nxP l row p) ≤ L := by
      unfold agE at c3
      by_cases d1 : out.length < dtV d row (lgP (nxS l row p) (nxP l row p))
      · rw [if_pos d1] at c3; omega
      · rw [if_neg d1] at c3
        by_cases d2 : L < out.length + lgV (nxS l row p) row (nxP l row p)
        · rw [if_pos d2] at c3; omega
        · omega
    rw [cpy_len8]
    omega

theorem Sys.lt {l d row : List Int} {L p : Nat} {out : List Int} {e : Int} {q : Nat} {o : List Int} (hb : Bit row) (hl : dcE l = 0) (h : Sys l d row L p out e q o) : (e = 0 → p < q ∧ q ≤ row.length ∧ out.length ≤ o.length ∧ o.length ≤ max L out.length) := by
  induction h with
  | bad h1 h2 => exact fun h => absurd h h2
  | fin h1 => exact fun _ => sy1_go hb hl h1
  | go h1 h2 ih =>
    intro he
    have a := sy1_go hb hl h1
    have b := ih he
    omega

theorem st1_lt {row : List Int} {L p : Nat} {out : List Int} {q : Nat} {o : List Int} (hb : Bit row) (h : st1 row L p out = (0, q, o)) : p < q ∧ q ≤ row.length ∧ out.length ≤ o.length ∧ o.length ≤ max L out.length := by
  unfold st1 at h
  by_cases c0 : row.length < algn p + 32
  · rw [if_pos c0] at h; injection h with h; cases h
  rw [if_neg c0] at h
  by_cases c1 : ahead row (algn p) 16 + ahead row (algn p + 16) 16 ≠ 65535
  · rw [if_pos c1] at h; injection h with h; cases h
  rw [if_neg c1] at h
  by_cases c2 : L < out.length + (ahead row (algn p) 16).toNat
  · rw [if_pos c2] at h; injection h with h; cases h
  rw [if_neg c2] at h
  by_cases c3 : row.length < algn p + 32 + 8 * (ahead row (algn p) 16).toNat
  · rw [if_pos c3] at h; injection h with h; cases h
  rw [if_neg c3] at h
  injection h with _ h
  injection h with h1 h2
  subst h1; subst h2
  have h3 : p ≤ algn p := by unfold algn; omega
  have h4 : (pack ((row.drop (algn p + 32)).take (8 * (ahead row (algn p) 16).toNat))).length = (ahead row (algn p) 16).toNat := by
    rw [length_pack ((hb.drop _).take _), List.length_take, List.length_drop]; omega
  rw [List.length_append, h4]
  omega

theorem Blk.lt {row : List Int} {L p : Nat} {out : List Int} {f : Bool} {k : Int} {q : Nat} {o : List Int} {e : Int} (hb : Bit row) (h : Blk row L p out e f k q o) (he : e = 0) : p < q ∧ q ≤ row.length ∧ out.length ≤ o.length ∧ o.length ≤ max L out.length := by
  cases h with
  | short h1 => cases he
  | three h1 h2 => cases he
  | stored h1 h2 h3 => subst he; have := st1_lt hb h3; omega
  | fixed h1 h2 h3 => have := h3.lt hb fl_ok he; omega
  | head h1 h2 h3 => exact absurd he h3
  | dyn h1 h2 h3 h4 =>
    have := h4.lt hb (rd_good hb h3).1 he
    have := rd_le h3
    omega
end Go.Proofs.YtfoglaajnlbnbaaGreatDoor

namespace Go.Proofs.YtfoglaajnlbnbaaGreatDoor
open Go.RowKit Go.Maps
set_option maxRecDepth 20000
set_option linter.unusedVariables false

theorem hmayBe (a : Option Addr) (n c : Nat) (limit : Int) (w : World) (b : Bool) (hb : decide (n ≤ 33554432 ∧ 0 ≤ limit ∧ limit ≤ 16777216) = b) :
    Calls Tryz.prog 66 #[.slice a n c, .int .i64 limit] w fun e w' => e = .returned (.bool b) ∧ w' = w := by
  go_enter Tryz.func66, Tryz.ntmps66
  by_cases c0 : n ≤ 33554432
  · have h0 : (n : Int) ≤ 33554432 := by omega
    by_cases c1 : 0 ≤ limit
    · by_cases c2 : limit ≤ 16777216
      · obtain rfl : b = true := by rw [← hb]; exact decide_eq_true ⟨c0, c1, c2⟩
        clear hb
        go_wp2
        go_ret
        exact ⟨rfl, rfl⟩
      · obtain rfl : b = false := by rw [← hb]; exact decide_eq_false (by omega)
        clear hb
        go_wp2
        go_ret
        exact ⟨rfl, rfl⟩
    · obtain rfl : b = false := by rw [← hb]; exact decide_eq_false (by omega)
      clear hb
      go_wp2
      go_ret
      exact ⟨rfl, rfl⟩
  · have h0 : ¬ ((n : Int) ≤ 33554432) := by omega
    obtain rfl : b = false := by rw [← hb]; exact decide_eq_false (by omega)
    clear hb
    go_wp2
    go_ret
    exact ⟨rfl, rfl⟩

theorem Herd.swap {W w : World} {a b : (Nat → Nat) × Thing} (h : Herd W w [a, b]) : Herd W w [b, a] := by
  have f : ∀ (i : Nat) (d : (Nat → Nat) × Thing), [b, a][i]? = some d → ([a, b] : List ((Nat → Nat) × Thing))[1 - i]? = some d ∧ i < 2 := fun i d hd => by
    match i with
    | 0 => exact ⟨hd, by omega⟩
    | 1 => exact ⟨hd, by omega⟩
    | n + 2 => simp at hd
  exact ⟨h.bel, fun i d hd => h.rep _ d (f i d hd).1, fun i d hd => h.up _ d (f i d hd).1, fun i j d e hd he hij => h.sep _ _ d e (f i d hd).1 (f j e he).1 (by have := (f i d hd).2; have := (f j e he).2; omega)⟩

set_option maxHeartbeats 1000000 in
theorem hbegin {w : World} {v : Value} {l : List Int} (h : SB w v l) (hB : Byt l) (limit : Int) :
    Calls Tryz.prog 36 #[v, .int .i64 limit] w fun e w' => ((l.length ≤ 33554432 ∧ 0 ≤ limit ∧ limit ≤ 16777216) ∧ ∃ g r, e = .returned (.pointer (some ⟨g, 0, none⟩)) ∧ TX w w' g r (unpack l) 0 limit.toNat [] false []) ∨ (¬ (l.length ≤ 33554432 ∧ 0 ≤ limit ∧ limit ≤ 16777216) ∧ Off w 1 e w') := by
  have HS := hide h
  obtain ⟨a, c, rfl, -⟩ := h
  have HM := hide (hmayBe a l.length c limit w _ rfl)
  have HB := hide hB
  clear hB
  go_enter Tryz.func36, Tryz.ntmps36
  go_wp2_with fail
  refine HM.out.mono ?_
  rintro e w1 ⟨rfl, hw1⟩
  subst hw1
  by_cases hc : l.length ≤ 33554432 ∧ 0 ≤ limit ∧ limit ≤ 16777216
  · rw [decide_eq_true hc]
    have HC := hide hc
    have HR := hide (hnewR (Herd.nil w1) _ l HS.out HB.out hc.1)
    clear hc
    go_wp2_with fail
    refine HR.out.mono ?_
    rintro e w2 ⟨r, K, rfl, h2⟩
    obtain ⟨L, HL⟩ : ∃ L : Nat, Hid ((L : Int) = limit) := ⟨limit.toNat, by show _ = _; have := HC.out; omega⟩
    have hL : L ≤ 16777216 := by have := HC.out; have := HL.out; omega
    have HLT : Hid (limit.toNat = L) := by show _ = _; have := HL.out; omega
    obtain ⟨K3, h3⟩ := h2.box1 (txO r none 0 0 L false none none)
    have h4 := Herd.swap h3
    have h5 : Herd w1 (w2.alloc (txO r none 0 0 L false none none)) [(K3, tb w2.heap.size (txO r none 0 0 L false none none)), (K, tr r (unpack l) 0), (fun _ => 0, tl (.slice none 0 0) [])] :=
      h4.push (Below.refl _ _) ⟨World.ownsRow_nil _ _ _ _, fun k hk => by simp [Value.ownBlock] at hk, fun k hk => absurd rfl hk⟩ fun k hk => absurd rfl hk
    have HX : Hid (TX w1 (w2.alloc (txO r none 0 0 L false none none)) w2.heap.size r (unpack l) 0 L [] false []) := ⟨_, _, _, none, 0, none, none, h5, .inl ⟨rfl, rfl⟩, Nat.zero_le _, hL⟩
    rw [← HL.out]
    clear h2 h3 h4 h5 HR HM
    go_wp2
    go_ret
    rw [HLT.out]
    exact .inl ⟨HC.out, w2.heap.size, r, rfl, HX.out⟩
  · rw [decide_eq_false hc]
    have HC := hide hc
    clear hc HM
    go_wp2_with fail
    refine (giveUp_any 1 _).mono ?_
    rintro e w2 ⟨rfl, rfl⟩
    go_wp2
    exact ⟨rfl, .inr ⟨HC.out, rfl, Below.refl _ _⟩⟩

theorem ob_up {w : World} {v : Value} {l : List Int} {B : Nat} (h : OB w 0 v l) (hk : ∀ k, v.ownBlock = some k → B ≤ k) : OB w B v l := by
  obtain ⟨h0, h1⟩ := h
  refine ⟨h0, ?_⟩
  rcases h1 with h1 | ⟨g, cap, cur, rfl, h2, h3⟩
  · exact .inl h1
  · exact .inr ⟨g, cap, cur, rfl, hk g rfl, h3⟩

theorem TX.own {W w : World} {g r : Nat} {row : List Int} {p L : Nat} {out : List Int} {dn : Bool} {ys : List ((Nat → Nat) × Thing)} (H : TX W w g r row p L out dn ys) : ∃ a c, w.cell? ⟨g, 1, none⟩ = some (.slice a out.length c) ∧ OB w W.heap.size (.slice a out.length c) out := by
  obtain ⟨Kt, Kr, Ko, a, c, fl, fd, HH, hf, hk⟩ := H
  have h2 : (tl (.slice a out.length c) out).P w Ko := HH.rep 2 _ rfl
  exact ⟨a, c, (txO_cells (HH.tbat 0 rfl)).2.1, ob_up h2.1 fun k hk => HH.up 2 _ rfl k (h2.2.1 k hk)⟩

def Rdg (row : List Int) (L p : Nat) (out : List Int) (dn : Bool) : Prop :=
  (dn = false ∧ ∀ ps E q o, Txt row L p out ps E q o → ∃ ps', Txt row L 0 [] ps' E q o) ∨ (dn = true ∧ ∃ ps, Txt row L 0 [] ps 0 p out)

theorem Rdg.step {row : List Int} {L p : Nat} {out : List Int} {f : Bool} {k : Int} {q : Nat} {o : List Int} (h : Rdg row L p out false) (hb : Blk row L p out 0 f k q o) : Rdg row L q o f := by
  rcases h with ⟨_, h⟩ | ⟨h, _⟩
  · cases f with
    | false => exact .inl ⟨rfl, fun ps E q' o' ht => h _ _ _ _ (Txt.go hb ht)⟩
    | true => exact .inr ⟨rfl, h _ _ _ _ (Txt.last hb)⟩
  · cases h

set_option maxHeartbeats 4000000 in
theorem hinf1 {w : World} {b0 b1 b2 b3 : Nat} {v : Value} {l : List Int} {limit : Int} (c0 : w.cell? ⟨b0, 0, none⟩ = some v) (c1 : w.cell? ⟨b1, 0, none⟩ = some (.int .i64 limit)) (c2 : ∃ u, w.cell? ⟨b2, 0, none⟩ = some u) (c3 : ∃ u, w.cell? ⟨b3, 0, none⟩ = some u) (f2 : w.frozen? ⟨b2, 0, none⟩ = false) (f3 : w.frozen? ⟨b3, 0, none⟩ = false) (h23 : b2 ≠ b3)
    (h : SB w v l) (hB : Byt l) (T : Tab w) (O : Odr w) :
    Calls Tryz.prog 35 #[.pointer (some ⟨b0, 0, none⟩), .pointer (some ⟨b1, 0, none⟩), .pointer (some ⟨b2, 0, none⟩), .pointer (some ⟨b3, 0, none⟩)] w fun e w' => ∃ E n o, Ifl l limit E n o ∧ ((E = 0 ∧ e = .returned (.tuple #[]) ∧ ∃ w1 a c, Below w.heap.size w w1 ∧ OB w1 w.heap.size (.slice a o.length c) o ∧ w' = (w1.setCell ⟨b2, 0, none⟩ (.slice a o.length c)).setCell ⟨b3, 0, none⟩ (.int .i64 n)) ∨ (E ≠ 0 ∧ Off w E e w')) := by
  have HT := hide T
  have HO := hide O
  have HBG := hide (hbegin h hB limit)
  have hb2 : b2 < w.heap.size := by obtain ⟨u, hu⟩ := c2; exact World.block_lt_of_cell? _ _ hu
  have hb3 : b3 < w.heap.size := by obtain ⟨u, hu⟩ := c3; exact World.block_lt_of_cell? _ _ hu
  have HC2 := hide c2
  have HC3 := hide c3
  have HF2 := hide f2
  have HF3 := hide f3
  have HBW := hide hB
  clear T O h hB c2 c3 f2 f3
  go_enter Tryz.func35, Tryz.ntmps35
  go_wp2_with fail
  refine HBG.out.mono ?_
  rintro e w1 (⟨hdom, g, r, rfl, h1⟩ | ⟨hdom, rfl, h1⟩)
  case inr =>
    have HX := hide h1
    have HI : Hid (Ifl l limit 1 0 []) := .inl ⟨hdom, rfl, rfl, rfl⟩
    clear h1 c0 c1 hdom
    go_wp2
    exact ⟨rfl, 1, 0, [], HI.out, .inr ⟨by decide, rfl, HX.out⟩⟩
  obtain ⟨L, HL⟩ : ∃ L : Nat, Hid (L = limit.toNat) := ⟨_, rfl⟩
  rw [← HL.out] at h1
  have HX1 := hide h1
  have HDM := hide hdom
  have HRD : Hid (Rdg (unpack l) L 0 [] false) := .inl ⟨rfl, fun ps E q o ht => ⟨ps, ht⟩⟩
  have HIF : Hid (∀ E q o, (∃ ps, Txt (unpack l) L 0 [] ps E q o) → (E = 0 → Ifl l limit 0 q o) ∧ (E ≠ 0 → Ifl l limit E 0 [])) := fun E q o ⟨ps, ht⟩ => by
    rw [HL.out] at ht
    exact ⟨fun he => .inr ⟨HDM.out, ps, q, o, by rw [← he]; exact ht, .inl ⟨rfl, rfl, rfl⟩⟩, fun he => .inr ⟨HDM.out, ps, q, o, ht, .inr ⟨he, rfl, rfl⟩⟩⟩
  obtain ⟨row, HROW⟩ : ∃ row, Hid (row = unpack l) := ⟨_, rfl⟩
  rw [← HROW.out] at HX1 HRD HIF
  clear h1 hdom HBG c0 c1
  go_wp2
  go_loopw [] (fun wr => ∃ (p' : Nat) (o' : List Int) (dn : Bool) (ys : List ((Nat → Nat) × Thing)), Hid (TX w wr g r row p' L o' dn ys) ∧ Hid (Rdg row L p' o' dn)) (fun wr => row.length + 1 - (intOf ((wr.cell? ⟨r, 1, none⟩).getD undef)).toNat)
  case atStart => exact ⟨0, [], false, [], HX1, HRD⟩
  case round =>
    obtain ⟨p', o', dn, ys, HX, HR⟩ := hrel
    clear HX1 HRD
    have hms : (intOf ((wr.cell? ⟨r, 1, none⟩).getD undef)).toNat = p' := by rw [HX.out.at]; simp [intOf]
    have HMS := hide hms
    obtain ⟨ax, cx, d0, d1, d3, -, -, -, hat⟩ := HX.out.cells
    clear hms
    cases dn with
    | false =>
      have HBK := hide (hblock HX.out HT.out HO.out)
      clear d0 d1 hat
      go_wp2_with fail
      refine HBK.out.mono ?_
      rintro e w2 ⟨E, f, k, q, o, hblk, ⟨rfl, rfl, zs, h2⟩ | ⟨he, rfl, h2⟩⟩
      · have HX2 := hide h2
        have HR2 := hide (HR.out.step hblk)
        have HLT := hide (hblk.lt HX.out.rd.1 rfl)
        clear h2 hblk d3 HBK
        go_wp2
        go_roundw
        case rel => exact ⟨q, o, f, _, HX2, HR2⟩
        case measure =>
          rw [HMS.out, HX2.out.at]
          simp [intOf]
          have := HLT.out
          omega
      · have HX2 := hide h2
        have HI : Hid (Ifl l limit E 0 []) := by
          rcases HR.out with ⟨_, hr⟩ | ⟨hr, _⟩
          · exact (HIF.out E p' o' (hr [] _ _ _ (Txt.bad hblk he))).2 he
          · cases hr
        clear h2 hblk d3
        go_wp2
        exact ⟨rfl, E, 0, [], HI.out, .inr ⟨he, rfl, HX2.out⟩⟩
    | true =>
      have HI : Hid (Ifl l limit 0 p' o') := by
        rcases HR.out with ⟨hr, _⟩ | ⟨_, hr⟩
        · cases hr
        · exact (HIF.out 0 p' o' hr).1 rfl
      obtain ⟨a5, c5, e1, ho5⟩ := HX.out.own
      rw [d1] at e1
      injection e1 with e1
      injection e1 with e1 _ e3
      subst e1; subst e3
      obtain ⟨M, HM⟩ : ∃ M : Nat, Hid (M = o'.length) := ⟨_, rfl⟩
      rw [← HM.out] at d1
      have HAT : Hid (Calls Tryz.prog 38 #[.pointer (some ⟨r, 0, none⟩)] wr.drew fun e w' => e = .returned (.int .i64 p') ∧ w' = wr.drew) := hat 1
      have HO5 := hide ho5
      have hbl := HX.out.bel
      have HBL := hide hbl
      obtain ⟨u2, hu2⟩ := HC2.out
      obtain ⟨u3, hu3⟩ := HC3.out
      have k2 : wr.cell? ⟨b2, 0, none⟩ = some u2 := by rw [hbl.cell hb2]; exact hu2
      have k3 : wr.cell? ⟨b3, 0, none⟩ = some u3 := by rw [hbl.cell hb3]; exact hu3
      have k4 : wr.frozen? ⟨b2, 0, none⟩ = false := by rw [hbl.frozen hb2]; exact HF2.out
      have k5 : wr.frozen? ⟨b3, 0, none⟩ = false := by rw [hbl.frozen hb3]; exact HF3.out
      have h32 : ¬ b3 = b2 := fun e => h23 e.symm
      clear hat ho5 hbl hu2 hu3
      go_wp2
      go_region_with (go_at_call 38; (with_reducible refine HAT.out.mono ?_); rintro e w7 ⟨rfl, hw7⟩; rw [hw7]; clear hw7)
      all_goals
        go_wp2
        (try simp only [Exit.inBlock, Exit.then])
        refine bodyPost_end (results_none rfl _ _ _) rfl ?_
        refine ⟨0, p', o', HI.out, .inl ⟨rfl, rfl, wr.drew, ax, cx, HBL.out.drew, HO5.out.move (fun k hk => rfl), ?_⟩⟩
        rw [← HM.out]
        rfl
end Go.Proofs.YtfoglaajnlbnbaaGreatDoor

namespace Go.Proofs.YtfoglaajnlbnbaaGreatDoor
open Go.RowKit Go.Maps
set_option maxRecDepth 20000
set_option linter.unusedVariables false

def Ians (w : World) (l : List Int) (limit : Int) (e : Ending) (w' : World) : Prop :=
  ∃ E n o a c, Ifl l limit E n o ∧ e = .returned (.tuple #[.slice a o.length c, .int .i64 (n : Nat), .int .i64 E]) ∧ OB w' w.heap.size (.slice a o.length c) o ∧ Below w.heap.size w w'

theorem ob_set {w : World} {B b : Nat} {v u : Value} {l : List Int} (h : OB w B v l) (hb : b < B) : OB (w.setCell ⟨b, 0, none⟩ u) B v l := h.move fun k hk => setCell_others w b 0 u k (by have := (h.lt k hk).1; omega)

theorem cell_set {w : World} {b c : Nat} {u z : Value} (h : w.cell? ⟨c, 0, none⟩ = some z) (hbc : b ≠ c) : (w.setCell ⟨b, 0, none⟩ u).cell? ⟨c, 0, none⟩ = some z := by
  rw [World.cell?_of_block (w := w) (setCell_others w b 0 u c (fun e => hbc e.symm))]; exact h
theorem froz_set {w : World} {b c : Nat} {u : Value} (h : w.frozen? ⟨c, 0, none⟩ = false) (hbc : b ≠ c) : (w.setCell ⟨b, 0, none⟩ u).frozen? ⟨c, 0, none⟩ = false := by
  rw [World.frozen?_of_block (w := w) (setCell_others w b 0 u c (fun e => hbc e.symm))]; exact h

theorem five {w : World} (o0 o1 o2 o3 o4 : Obj) : ∃ w5, w5 = ((((w.alloc o0).alloc o1).alloc o2).alloc o3).alloc o4 ∧ w5.heap[w.heap.size]? = some o0 ∧ w5.heap[w.heap.size + 1]? = some o1 ∧ w5.heap[w.heap.size + 2]? = some o2 ∧ w5.heap[w.heap.size + 3]? = some o3 ∧ w5.heap[w.heap.size + 4]? = some o4 ∧ w5.heap.size = w.heap.size + 5 ∧ Below w.heap.size w w5 := by
  have b1 := (Below.refl w.heap.size w).alloc (Nat.le_refl _) o0
  have b2 := b1.alloc b1.size o1
  have b3 := b2.alloc b2.size o2
  have b4 := b3.alloc b3.size o3
  have b5 := b4.alloc b4.size o4
  refine ⟨_, rfl, ?_, ?_, ?_, ?_, ?_, by simp, b5⟩
  · rw [Below.heap_alloc _ _ _ (by simp <;> omega), Below.heap_alloc _ _ _ (by simp <;> omega), Below.heap_alloc _ _ _ (by simp <;> omega), Below.heap_alloc _ _ _ (by simp <;> omega)]; exact heap_alloc_new _ _
  · rw [Below.heap_alloc _ _ _ (by simp <;> omega), Below.heap_alloc _ _ _ (by simp <;> omega), Below.heap_alloc _ _ _ (by simp <;> omega)]; exact (by simpa using heap_alloc_new (w.alloc o0) o1)
  · rw [Below.heap_alloc _ _ _ (by simp <;> omega), Below.heap_alloc _ _ _ (by simp <;> omega)]; exact (by simpa using heap_alloc_new ((w.alloc o0).alloc o1) o2)
  · rw [Below.heap_alloc _ _ _ (by simp <;> omega)]; exact (by simpa using heap_alloc_new (((w.alloc o0).alloc o1).alloc o2) o3)
  · exact (by simpa using heap_alloc_new ((((w.alloc o0).alloc o1).alloc o2).alloc o3) o4)

theorem one_cell {w : World} {g : Nat} {z : Value} {t : TypeId} (h : w.heap[g]? = some (.cells #[z] t (0, 0))) : w.cell? ⟨g, 0, none⟩ = some z ∧ w.frozen? ⟨g, 0, none⟩ = false := by
  constructor
  · unfold World.cell?; rw [h]; rfl
  · unfold World.frozen?; rw [h]; rfl

set_option maxHeartbeats 4000000 in
theorem hInflate {w : World} {v : Value} {l : List Int} (h : SB w v l) (hB : Byt l) (limit : Int) (T : Tab w) (O : Odr w) :
    Calls Tryz.prog 11 #[v, .int .i64 limit] w (Ians w l limit) := by
  obtain ⟨w5, hw5, t0, t1, t2, t3, t4, hsz, hb5⟩ := five (w := w) (.cells #[v] 28) (.cells #[.int .i64 limit] 3) (.cells #[.slice none 0 0] 28) (.cells #[.int .i64 0] 3) (.cells #[.int .i64 0] 29)
  obtain ⟨k0, -⟩ := one_cell t0
  obtain ⟨k1, -⟩ := one_cell t1
  obtain ⟨k2, j2⟩ := one_cell t2
  obtain ⟨k3, j3⟩ := one_cell t3
  obtain ⟨k4, j4⟩ := one_cell t4
  have hin := hinf1 k0 k1 ⟨_, k2⟩ ⟨_, k3⟩ j2 j3 (by omega) (h.below hb5) hB (T.mono hb5) (O.mono hb5)
  obtain ⟨w4, hw4⟩ : ∃ w4, (((w.alloc (.cells #[v] 28)).alloc (.cells #[.int .i64 limit] 3)).alloc (.cells #[.slice none 0 0] 28)).alloc (.cells #[.int .i64 0] 3) = w4 := ⟨_, rfl⟩
  have hs4 : w4.heap.size = w.heap.size + 4 := by rw [← hw4]; simp
  rw [hw4] at hw5
  have HCA : Hid (Calls Tryz.prog 34 #[.func (.func 35) #[] #[.pointer (some ⟨w.heap.size, 0, none⟩), .pointer (some ⟨w.heap.size + 1, 0, none⟩), .pointer (some ⟨w.heap.size + 2, 0, none⟩), .pointer (some ⟨w.heap.size + 3, 0, none⟩)]] w4 fun e w' => ∃ E n o a c, Ifl l limit E n o ∧ e = .returned (.int .i64 E) ∧ w'.cell? ⟨w.heap.size + 2, 0, none⟩ = some (.slice a o.length c) ∧ w'.cell? ⟨w.heap.size + 3, 0, none⟩ = some (.int .i64 (n : Nat)) ∧ w'.frozen? ⟨w.heap.size + 2, 0, none⟩ = false ∧ w'.frozen? ⟨w.heap.size + 3, 0, none⟩ = false ∧ OB w' (w.heap.size + 5) (.slice a o.length c) o ∧ Below w.heap.size w w') := by
    refine (hcaught w4 35 _ (fun w => Tryz.call35 _ w)
      (fun w' => ∃ n o a c, Ifl l limit 0 n o ∧ w'.cell? ⟨w.heap.size + 2, 0, none⟩ = some (.slice a o.length c) ∧ w'.cell? ⟨w.heap.size + 3, 0, none⟩ = some (.int .i64 (n : Nat)) ∧ w'.frozen? ⟨w.heap.size + 2, 0, none⟩ = false ∧ w'.frozen? ⟨w.heap.size + 3, 0, none⟩ = false ∧ OB w' (w.heap.size + 5) (.slice a o.length c) o ∧ Below w.heap.size w w' ∧ w'.cell? ⟨w.heap.size + 4, 0, none⟩ = some (.int .i64 0) ∧ w'.frozen? ⟨w.heap.size + 4, 0, none⟩ = false ∧ w.heap.size + 5 ≤ w'.heap.size)
      (fun E w' => Ifl l limit E 0 [] ∧ Below w5.heap.size w5 w') ?_ ?_ ?_).mono ?_
    · rw [← hw5]
      refine hin.mono ?_
      rintro e w' ⟨E, n, o, hI, ⟨rfl, rfl, w1, a, c, hb, ho, rfl⟩ | ⟨he, rfl, hb⟩⟩
      · refine .inl ⟨rfl, n, o, a, c, hI, ?_⟩
        have u2 : w1.cell? ⟨w.heap.size + 2, 0, none⟩ = some (.slice none 0 0) := by rw [hb.cell (by dsimp only; omega)]; exact k2
        have u3 : w1.cell? ⟨w.heap.size + 3, 0, none⟩ = some (.int .i64 0) := by rw [hb.cell (by dsimp only; omega)]; exact k3
        have u4 : w1.cell? ⟨w.heap.size + 4, 0, none⟩ = some (.int .i64 0) := by rw [hb.cell (by dsimp only; omega)]; exact k4
        have v2 : w1.frozen? ⟨w.heap.size + 2, 0, none⟩ = false := by rw [hb.frozen (by dsimp only; omega)]; exact j2
        have v3 : w1.frozen? ⟨w.heap.size + 3, 0, none⟩ = false := by rw [hb.frozen (by dsimp only; omega)]; exact j3
        have v4 : w1.frozen? ⟨w.heap.size + 4, 0, none⟩ = false := by rw [hb.frozen (by dsimp only; omega)]; exact j4
        rw [hsz] at ho
        have hsz1 := hb.size
        refine ⟨cell_set (World.cell?_setCell_same _ _ _ u2) (by omega), World.cell?_setCell_same _ _ _ (cell_set u3 (by omega)), froz_set ?_ (by omega), ?_, ob_set (ob_set ho (by omega)) (by omega), ?_, cell_set (cell_set u4 (by omega)) (by omega), froz_set (froz_set v4 (by omega)) (by omega), by simp; omega⟩
        · rw [World.frozen?_setCell]; exact v2
        · rw [World.frozen?_setCell]; exact froz_set v3 (by omega)
        · exact ((hb5.trans (hb.mono (by omega))).setCell (p := ⟨w.heap.size + 2, 0, none⟩) (by dsimp only; omega) _).setCell (p := ⟨w.heap.size + 3, 0, none⟩) (by dsimp only; omega) _
      · refine .inr ⟨E, rfl, ?_, hb⟩
        rcases hI with ⟨hd, rfl, rfl, rfl⟩ | ⟨hd, ps, q, o', ht, ⟨h0, _⟩ | ⟨_, rfl, rfl⟩⟩
        · exact .inl ⟨hd, rfl, rfl, rfl⟩
        · exact absurd h0 he
        · exact .inr ⟨hd, ps, q, o', ht, .inr ⟨he, rfl, rfl⟩⟩
    · rintro w' ⟨n, o, a, c, -, -, -, -, -, -, -, x1, x2, x3⟩
      rw [hs4]
      exact ⟨x1, x2, by omega⟩
    · rintro E w' ⟨-, hb⟩
      rw [hs4]
      exact ⟨by rw [hb.cell (by dsimp only; omega)]; exact k4, by rw [hb.frozen (by dsimp only; omega)]; exact j4, by have := hb.size; omega⟩
    · rintro e w' (⟨rfl, w1, ⟨n, o, a, c, hI, x2, x3, y2, y3, ho, hb, -⟩, rfl⟩ | ⟨E, w1, rfl, ⟨hI, hb⟩, rfl⟩)
      · rw [hs4]
        refine ⟨0, n, o, a, c, hI, rfl, cell_set x2 (by omega), cell_set x3 (by omega), froz_set y2 (by omega), froz_set y3 (by omega), ob_set ho (by omega), hb.setCell (p := ⟨w.heap.size + 4, 0, none⟩) (by dsimp only; omega) _⟩
      · rw [hs4]
        have hsz1 := hb.size
        have hbb : Below w.heap.size w (w1.setCell ⟨w.heap.size + 4, 0, none⟩ (.int .i64 E)) := (hb5.trans (hb.mono (by omega))).setCell (p := ⟨w.heap.size + 4, 0, none⟩) (by dsimp only; omega) _
        have u2 : w1.cell? ⟨w.heap.size + 2, 0, none⟩ = some (.slice none 0 0) := by rw [hb.cell (by dsimp only; omega)]; exact k2
        have u3 : w1.cell? ⟨w.heap.size + 3, 0, none⟩ = some (.int .i64 0) := by rw [hb.cell (by dsimp only; omega)]; exact k3
        have v2 : w1.frozen? ⟨w.heap.size + 2, 0, none⟩ = false := by rw [hb.frozen (by dsimp only; omega)]; exact j2
        have v3 : w1.frozen? ⟨w.heap.size + 3, 0, none⟩ = false := by rw [hb.frozen (by dsimp only; omega)]; exact j3
        have ha := (Below.refl (w1.setCell ⟨w.heap.size + 4, 0, none⟩ (.int .i64 E)).heap.size (w1.setCell ⟨w.heap.size + 4, 0, none⟩ (.int .i64 E))).alloc (Nat.le_refl _) (.cells #[.int .i64 E] 109)
        refine ⟨E, 0, [], none, 0, hI, rfl, ?_, ?_, ?_, ?_, World.ownsRow_nil _ _ _ _, hbb.alloc hbb.size _⟩
        · rw [ha.cell (by rw [size_setCell]; dsimp only; omega)]; exact cell_set u2 (by omega)
        · rw [ha.cell (by rw [size_setCell]; dsimp only; omega)]; exact cell_set u3 (by omega)
        · rw [ha.frozen (by rw [size_setCell]; dsimp only; omega)]; exact froz_set v2 (by omega)
        · rw [ha.frozen (by rw [size_setCell]; dsimp only; omega)]; exact froz_set v3 (by omega)
  have HW4 := hide hw4
  have hmf : ∀ (fn : Fn) (first cap : Array Value) (w : World), (Instr.makeFunc fn first cap).run Tryz.prog w = .ok (.func fn first cap) w := fun _ _ _ _ => rfl
  obtain ⟨a, c, hva, -⟩ := h
  subst hva
  clear hw4 hw5 hin t0 t1 t2 t3 t4 hsz hb5 k0 k1 k2 k3 k4 j2 j3 j4 hs4 T O hB
  go_enter Tryz.func11, Tryz.ntmps11
  go_wp2_with fail
  rw [HW4.out]
  refine HCA.out.mono ?_
  rintro e w6 ⟨E, n, o, a2, c2, hI, rfl, x2, x3, y2, y3, ho, hb⟩
  obtain ⟨M, HM⟩ : ∃ M : Nat, Hid (M = o.length) := ⟨_, rfl⟩
  rw [← HM.out] at x2
  have HI := hide hI
  have HOO := hide ho
  have HBB := hide hb
  clear hI ho hb HCA
  have z1 : (w6.setCell ⟨w.heap.size + 2, 0, none⟩ (.slice a2 M c2)).cell? ⟨w.heap.size + 3, 0, none⟩ = some (.int .i64 (n : Nat)) := cell_set x3 (by omega)
  have z2 : (w6.setCell ⟨w.heap.size + 2, 0, none⟩ (.slice a2 M c2)).frozen? ⟨w.heap.size + 3, 0, none⟩ = false := froz_set y3 (by omega)
  have z3 : ((w6.setCell ⟨w.heap.size + 2, 0, none⟩ (.slice a2 M c2)).setCell ⟨w.heap.size + 3, 0, none⟩ (.int .i64 (n : Nat))).cell? ⟨w.heap.size + 2, 0, none⟩ = some (.slice a2 M c2) := cell_set (World.cell?_setCell_same _ _ _ x2) (by omega)
  have z4 : ((w6.setCell ⟨w.heap.size + 2, 0, none⟩ (.slice a2 M c2)).setCell ⟨w.heap.size + 3, 0, none⟩ (.int .i64 (n : Nat))).cell? ⟨w.heap.size + 3, 0, none⟩ = some (.int .i64 (n : Nat)) := World.cell?_setCell_same _ _ _ z1
  have HOF : Hid (OB ((w6.setCell ⟨w.heap.size + 2, 0, none⟩ (.slice a2 M c2)).setCell ⟨w.heap.size + 3, 0, none⟩ (.int .i64 (n : Nat))) (w.heap.size + 5) (.slice a2 o.length c2) o) := ob_set (ob_set HOO.out (by omega)) (by omega)
  have HBF : Hid (Below w.heap.size w ((w6.setCell ⟨w.heap.size + 2, 0, none⟩ (.slice a2 M c2)).setCell ⟨w.heap.size + 3, 0, none⟩ (.int .i64 (n : Nat)))) := (HBB.out.setCell (p := ⟨w.heap.size + 2, 0, none⟩) (by dsimp only; omega) _).setCell (p := ⟨w.heap.size + 3, 0, none⟩) (by dsimp only; omega) _
  go_wp2
  go_region
  all_goals
    go_wp2
    refine bodyPost_ret (v := .tuple #[.slice a2 M c2, .int .i64 (n : Nat), .int .i64 E]) (by simp [results, Tryz.results11, go_sem, z3, z4]) rfl ?_
    refine ⟨E, n, o, a2, c2, HI.out, by rw [HM.out], ?_, ?_⟩
    · exact (HOF.out.base (by omega)).move fun k hk => rfl
    · exact HBF.out.drew
end Go.Proofs.YtfoglaajnlbnbaaGreatDoor

namespace Go.Proofs.YtfoglaajnlbnbaaGreatDoor
open Go.RowKit Go.Maps
set_option maxRecDepth 20000
set_option linter.unusedVariables false

theorem sy1_limit {l d row : List Int} {L L' p : Nat} {out : List Int} {b : Bool} {q : Nat} {o : List Int} (hl : out.length ≤ L') (h : sy1 l d row L p out = (0, b, q, o)) :
    (o.length ≤ L' → sy1 l d row L' p out = (0, b, q, o)) ∧ (L' < o.length → sy1 l d row L' p out = (85, false, p, out)) := by
  by_cases c0 : syE l row p ≠ 0
  · rw [sy1_bad c0] at h
    injection h with h
    exact absurd h c0
  have c0' : syE l row p = 0 := by omega
  rcases Nat.lt_trichotomy (nxS l row p) 256 with c | c | c
  · rw [sy1_lit c0' c] at h
    rw [sy1_lit c0' c]
    by_cases c1 : L < out.length + 1
    · rw [if_pos c1] at h; injection h with h; cases h
    · rw [if_neg c1] at h
      have ho : o.length = out.length + 1 := by
        injection h with _ h
        injection h with _ h
        injection h with h1 h2
        rw [← h2]; simp
      exact ⟨fun q => by rw [if_neg (by omega)]; exact h, fun q => by rw [if_pos (by omega)]⟩
  · rw [sy1_end c0' c] at h
    rw [sy1_end c0' c]
    have ho : o = out := by
      injection h with _ h
      injection h with _ h
      injection h with h1 h2
      exact h2.symm
    subst ho
    exact ⟨fun q => h, fun q => by omega⟩
  · rw [sy1_copy c0' c] at h
    rw [sy1_copy c0' c]
    by_cases c1 : lgE (nxS l row p) row (nxP l row p) ≠ 0
    · rw [if_pos c1] at h; injection h with h; exact absurd h c1
    rw [if_neg c1] at h ⊢
    by_cases c2 : dtE d row (lgP (nxS l row p) (nxP l row p)) ≠ 0
    · rw [if_pos c2] at h; injection h with h; exact absurd h c2
    rw [if_neg c2] at h ⊢
    obtain ⟨V, hV⟩ : ∃ V, lgV (nxS l row p) row (nxP l row p) = V := ⟨_, rfl⟩
    obtain ⟨D, hD⟩ : ∃ D, dtV d row (lgP (nxS l row p) (nxP l row p)) = D := ⟨_, rfl⟩
    rw [hV, hD] at h ⊢
    by_cases c3 : agE L out V D ≠ 0
    · rw [if_pos c3] at h; injection h with h; exact absurd h c3
    rw [if_neg c3] at h
    have ho : o.length = out.length + V := by
      injection h with _ h
      injection h with _ h
      injection h with h1 h2
      rw [← h2, cpy_len8]
    have hfar : ¬ out.length < D := fun d1 => by
      apply c3; unfold agE; rw [if_pos d1]; decide
    refine ⟨fun q => ?_, fun q => ?_⟩
    · have e : agE L' out V D = 0 := by unfold agE; rw [if_neg hfar, if_neg (by omega)]
      rw [if_neg (by simp [e])]; exact h
    · have e : agE L' out V D = 85 := by unfold agE; rw [if_neg hfar, if_pos (by omega)]
      rw [if_pos (by simp [e]), e]

theorem Sys.limit {l d row : List Int} {L L' p : Nat} {out : List Int} {e : Int} {q : Nat} {o : List Int} (hb : Bit row) (hd : dcE l = 0) (h : Sys l d row L p out e q o) : e = 0 → out.length ≤ L' →
    (o.length ≤ L' → Sys l d row L' p out 0 q o) ∧ (L' < o.length → ∃ q' o', Sys l d row L' p out 85 q' o') := by
  induction h with
  | bad h1 h2 => exact fun h => absurd h h2
  | fin h1 =>
    intro _ hl
    have := sy1_limit hl h1
    exact ⟨fun c => Sys.fin (this.1 c), fun c => ⟨_, _, Sys.bad (this.2 c) (by decide)⟩⟩
  | go h1 h2 ih =>
    intro he hl
    have hs := sy1_limit hl h1
    have hm := h2.lt hb hd he
    rename_i p1 out1 q1 o1 e1 q2 o2
    by_cases c : o1.length ≤ L'
    · obtain ⟨i1, i2⟩ := ih he c
      refine ⟨fun k => Sys.go (hs.1 c) (i1 k), fun k => ?_⟩
      obtain ⟨q', o', hq⟩ := i2 k
      exact ⟨q', o', Sys.go (hs.1 c) hq⟩
    · exact ⟨fun k => by omega, fun k => ⟨_, _, Sys.bad (hs.2 (by omega)) (by decide)⟩⟩

theorem st1_limit {row : List Int} {L L' p : Nat} {out : List Int} {q : Nat} {o : List Int} (hb : Bit row) (hl : out.length ≤ L') (h : st1 row L p out = (0, q, o)) :
    (o.length ≤ L' → st1 row L' p out = (0, q, o)) ∧ (L' < o.length → st1 row L' p out = (85, p, out)) := by
  unfold st1 at h ⊢
  by_cases c0 : row.length < algn p + 32
  · rw [if_pos c0] at h; injection h with h; cases h
  rw [if_neg c0] at h ⊢
  by_cases c1 : ahead row (algn p) 16 + ahead row (algn p + 16) 16 ≠ 65535
  · rw [if_pos c1] at h; injection h with h; cases h
  rw [if_neg c1] at h ⊢
  by_cases c2 : L < out.length + (ahead row (algn p) 16).toNat
  · rw [if_pos c2] at h; injection h with h; cases h
  rw [if_neg c2] at h
  by_cases c3 : row.length < algn p + 32 + 8 * (ahead row (algn p) 16).toNat
  · rw [if_pos c3] at h; injection h with h; cases h
  rw [if_neg c3] at h
  have h4 : (pack ((row.drop (algn p + 32)).take (8 * (ahead row (algn p) 16).toNat))).length = (ahead row (algn p) 16).toNat := by
    rw [length_pack ((hb.drop _).take _), List.length_take, List.length_drop]; omega
  have ho : o.length = out.length + (ahead row (algn p) 16).toNat := by
    injection h with _ h
    injection h with h1 h2
    rw [← h2, List.length_append, h4]
  exact ⟨fun k => by rw [if_neg (by omega), if_neg c3]; exact h, fun k => by rw [if_pos (by omega)]⟩

theorem Blk.limit {row : List Int} {L L' p : Nat} {out : List Int} {f : Bool} {k : Int} {q : Nat} {o : List Int} {e : Int} (hb : Bit row) (hl : out.length ≤ L') (h : Blk row L p out e f k q o) (he : e = 0) :
    (o.length ≤ L' → Blk row L' p out 0 f k q o) ∧ (L' < o.length → ∃ f k q o, Blk row L' p out 85 f k q o) := by
  cases h with
  | short h1 => cases he
  | three h1 h2 => cases he
  | stored h1 h2 h3 =>
    subst he
    have := st1_limit hb hl h3
    exact ⟨fun c => Blk.stored h1 h2 (this.1 c), fun c => ⟨_, _, _, _, Blk.stored h1 h2 (this.2 c)⟩⟩
  | fixed h1 h2 h3 =>
    have := h3.limit hb fl_ok he hl
    refine ⟨fun c => Blk.fixed h1 h2 (this.1 c), fun c => ?_⟩
    obtain ⟨q', o', hq⟩ := this.2 c
    exact ⟨_, _, _, _, Blk.fixed h1 h2 hq⟩
  | head h1 h2 h3 => exact absurd he h3
  | dyn h1 h2 h3 h4 =>
    have := h4.limit hb (rd_good hb h3).1 he hl
    refine ⟨fun c => Blk.dyn h1 h2 h3 (this.1 c), fun c => ?_⟩
    obtain ⟨q', o', hq⟩ := this.2 c
    exact ⟨_, _, _, _, Blk.dyn h1 h2 h3 hq⟩

theorem Txt.mono {row : List Int} {L p : Nat} {out : List Int} {ps : List Pc} {e : Int} {q : Nat} {o : List Int} (hb : Bit row) (h : Txt row L p out ps e q o) : e = 0 → out.length ≤ o.length ∧ p < q ∧ q ≤ row.length := by
  induction h with
  | bad h1 h2 => exact fun h => absurd h h2
  | last h1 => intro _; have := h1.lt hb rfl; omega
  | go h1 h2 ih => intro he; have := h1.lt hb rfl; have := ih he; omega

theorem Txt.limit {row : List Int} {L L' p : Nat} {out : List Int} {ps : List Pc} {e : Int} {q : Nat} {o : List Int} (hb : Bit row) (h : Txt row L p out ps e q o) : e = 0 → out.length ≤ L' →
    (o.length ≤ L' → ∃ ps, Txt row L' p out ps 0 q o) ∧ (L' < o.length → ∃ ps q' o', Txt row L' p out ps 85 q' o') := by
  induction h with
  | bad h1 h2 => exact fun h => absurd h h2
  | last h1 =>
    intro _ hl
    obtain ⟨i1, i2⟩ := h1.limit hb hl rfl
    refine ⟨fun c => ⟨_, Txt.last (i1 c)⟩, fun c => ?_⟩
    obtain ⟨f, k, q', o', hq⟩ := i2 c
    exact ⟨_, _, _, Txt.bad hq (by decide)⟩
  | go h1 h2 ih =>
    intro he hl
    obtain ⟨i1, i2⟩ := h1.limit hb hl rfl
    have hm := h2.mono hb he
    rename_i p1 out1 k1 q1 o1 ps1 e1 q2 o2
    by_cases c : o1.length ≤ L'
    · obtain ⟨j1, j2⟩ := ih he c
      refine ⟨fun k => ?_, fun k => ?_⟩
      · obtain ⟨ps', h'⟩ := j1 k
        exact ⟨_, Txt.go (i1 c) h'⟩
      · obtain ⟨ps', q', o', h'⟩ := j2 k
        exact ⟨_, _, _, Txt.go (i1 c) h'⟩
    · refine ⟨fun k => by omega, fun k => ?_⟩
      obtain ⟨f, k', q', o', hq⟩ := i2 (by omega)
      exact ⟨_, _, _, Txt.bad hq (by decide)⟩

end Go.Proofs.YtfoglaajnlbnbaaGreatDoor

namespace Go.Proofs.YtfoglaajnlbnbaaGreatDoor
open Go.RowKit Go.Maps
set_option maxRecDepth 20000
set_option linter.unusedVariables false

theorem Ifl.used {data : List Int} {limit : Int} {n : Nat} {o : List Int} (h : Ifl data limit 0 n o) : 0 < n ∧ n ≤ 8 * data.length ∧ o.length ≤ 16777216 ∧ data.length ≤ 33554432 ∧ (o.length : Int) ≤ limit := by
  rcases h with ⟨_, h, _⟩ | ⟨hd, ps, q, o', ht, ⟨_, rfl, rfl⟩ | ⟨h, _⟩⟩
  · cases h
  · have hm := ht.mono (bit_unpack data) rfl
    rw [length_unpack] at hm
    have hlim := ht.limit (L' := limit.toNat) (bit_unpack data) rfl (Nat.zero_le _)
    have hle : o.length ≤ limit.toNat := by
      rcases Nat.lt_or_ge limit.toNat o.length with c | c
      · obtain ⟨ps', q', o'', h'⟩ := hlim.2 c
        have := (ht.det h').2.1
        cases this
      · exact c
    omega
  · exact absurd rfl h

end Go.Proofs.YtfoglaajnlbnbaaGreatDoor

