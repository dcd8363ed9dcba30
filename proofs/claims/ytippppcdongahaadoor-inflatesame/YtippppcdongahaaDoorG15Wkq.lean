import Derived.Test.YtippppcdongahaaDoorG11Ifb
import Derived.Defers
import Derived.Recover
import Derived.Test.YtippppcdongahaaDoorG13Ifh
import Derived.Test.YtippppcdongahaaDoorG14Ifj
import Derived.Test.YtippppcdongahaaDoorG00Ints
import Derived.Maps.AppendAt
import Derived.Deep.AppendLies
import Derived.Deep.MidRow
import Derived.Deep.RegionHeld3
import Derived.Laws.CopyRow
import Derived.Laws.MakeOwn
import Derived.Deep.RegionLaw
namespace Go.Proofs.YtippppcdongahaaDoor
open Go.RowKit Go.Maps
set_option maxRecDepth 20000
set_option linter.unusedVariables false

theorem cau_idle (p : Addr) (w : World) :
    CallsD Tryd.prog 25 #[.pointer (some p)] .returning w fun e u' w' => e = .returned (.tuple #[]) ∧ u' = .returning ∧ w' = w := by
  refine callsD_of_wpS Tryd.func25 rfl fun c₀ cs hu => ?_
  apply wpS_seq
  apply wpS_region
  simp [wpOpsS, go_sem, recoverD, hu, Tryd.ntmps25, Exit.thenS]
  refine wpS_of_wp ?_
  have hn : ∀ w : World, (binOp BinOp.eql 20 .nilIface .nilIface).run Tryd.prog w = .ok (.bool true) w := fun _ => by kernel_rfl
  go_wp2
  cases c₀
  simp_all [bodyPostS, results, Tryd.results25]

set_option maxHeartbeats 2000000 in
theorem cau_fault (b : Nat) (E x : Int) (older : List PanicEntry) (w : World) (hc : w.cell? ⟨b, 0, none⟩ = some (.int .i64 x)) (hz : w.frozen? ⟨b, 0, none⟩ = false) (hb : b < w.heap.size) :
    CallsD Tryd.prog 25 #[.pointer (some ⟨b, 0, none⟩)] (.panicking ({ v := .iface 56 (.agg #[.int .i64 E]), recovered := false } :: older)) w fun e u' w' =>
      e = .returned (.tuple #[]) ∧ u' = .panicking ({ v := .iface 56 (.agg #[.int .i64 E]), recovered := true } :: older) ∧ w' = (w.setCell ⟨b, 0, none⟩ (.int .i64 E)).alloc (.cells #[.int .i64 E] 56) := by
  refine callsD_of_wpS Tryd.func25 rfl fun c₀ cs hu => ?_
  apply wpS_seq
  apply wpS_region
  simp [wpOpsS, go_sem, recoverD, hu, Tryd.ntmps25, Exit.thenS]
  refine wpS_of_wp ?_
  have hta : ∀ w : World, (Instr.typeAssert (.iface 56 (.agg #[.int .i64 E])) 20 56 true).run Tryd.prog w = .ok (.tuple #[.agg #[.int .i64 E], .bool true]) w := fun _ => by kernel_rfl
  have hc1 : (w.alloc (.cells #[.int .i64 E] 56)).cell? ⟨b, 0, none⟩ = some (.int .i64 x) := by rw [((Below.refl w.heap.size w).alloc (Nat.le_refl _) _).cell hb]; exact hc
  have hz1 : (w.alloc (.cells #[.int .i64 E] 56)).frozen? ⟨b, 0, none⟩ = false := by
    rw [((Below.refl w.heap.size w).alloc (Nat.le_refl _) _).frozen hb]; exact hz
  have hne : ¬ b = w.heap.size := by omega
  have hne2 : ¬ w.heap.size = b := by omega
  go_wp2
  cases c₀
  simp_all [bodyPostS, results, Tryd.results25]

theorem hcaught (w : World) (fid : Nat) (caps : Array Value) (hcf : ∀ w : World, (callFunc fid caps).run Tryd.prog w = .ok (.enter fid caps) w) (R : World → Prop) (R' : Int → World → Prop)
    (hC : Calls Tryd.prog fid caps (w.alloc (.cells #[.int .i64 0] 24)) fun e w' => (e = .returned (.tuple #[]) ∧ R w') ∨ ∃ E, e = flt E ∧ R' E w')
    (h1 : ∀ w', R w' → w'.cell? ⟨w.heap.size, 0, none⟩ = some (.int .i64 0) ∧ w'.frozen? ⟨w.heap.size, 0, none⟩ = false ∧ w.heap.size < w'.heap.size)
    (h2 : ∀ E w', R' E w' → w'.cell? ⟨w.heap.size, 0, none⟩ = some (.int .i64 0) ∧ w'.frozen? ⟨w.heap.size, 0, none⟩ = false ∧ w.heap.size < w'.heap.size) :
    Calls Tryd.prog 14 #[.func (.func fid) #[] caps] w fun e w' => (e = .returned (.int .i64 0) ∧ ∃ w1, R w1 ∧ w' = w1.setCell ⟨w.heap.size, 0, none⟩ (.int .i64 0)) ∨ ∃ E w1, e = .returned (.int .i64 E) ∧ R' E w1 ∧ w' = (w1.setCell ⟨w.heap.size, 0, none⟩ (.int .i64 E)).alloc (.cells #[.int .i64 E] 56) := by
  have hmf : ∀ (fn : Fn) (first cap : Array Value) (w : World), (Instr.makeFunc fn first cap).run Tryd.prog w = .ok (.func fn first cap) w := fun _ _ _ _ => rfl
  have HC := hide hC
  clear hC
  go_enter_defers Tryd.func14, Tryd.ntmps14
  go_wp2_with fail
  refine HC.out.mono ?_
  rintro e w1 (⟨rfl, hR⟩ | ⟨E, rfl, hR⟩)
  · obtain ⟨a1, a2, a3⟩ := h1 _ hR
    have HR := hide hR
    have b1 : (w1.setCell ⟨w.heap.size, 0, none⟩ (.int .i64 0)).cell? ⟨w.heap.size, 0, none⟩ = some (.int .i64 0) := World.cell?_setCell_same _ _ _ a1
    clear hR
    go_wp2
    refine leaves_cons (f := 25) (args := #[.pointer (some ⟨w.heap.size, 0, none⟩)]) (by simp) (by simp [go_sem]) ?_
    refine (cau_idle ⟨w.heap.size, 0, none⟩ _).mono ?_
    rintro e u' w'' ⟨rfl, rfl, rfl⟩
    refine ⟨.int .i64 0, by simp [results, Tryd.results14, go_sem, b1], .inl ⟨rfl, w1, HR.out, rfl⟩⟩
  · obtain ⟨a1, a2, a3⟩ := h2 _ _ hR
    have HR := hide hR
    have b1 : (w1.setCell ⟨w.heap.size, 0, none⟩ (.int .i64 E)).cell? ⟨w.heap.size, 0, none⟩ = some (.int .i64 E) := World.cell?_setCell_same _ _ _ a1
    have b2 : ((w1.setCell ⟨w.heap.size, 0, none⟩ (.int .i64 E)).alloc (.cells #[.int .i64 E] 56)).cell? ⟨w.heap.size, 0, none⟩ = some (.int .i64 E) := by
      rw [((Below.refl (w1.setCell ⟨w.heap.size, 0, none⟩ (.int .i64 E)).heap.size (w1.setCell ⟨w.heap.size, 0, none⟩ (.int .i64 E))).alloc (Nat.le_refl _) _).cell (by rw [size_setCell]; exact a3)]
      exact b1
    clear hR
    go_wp2
    refine leaves_cons (f := 25) (args := #[.pointer (some ⟨w.heap.size, 0, none⟩)]) (by simp) (by simp [go_sem]) ?_
    refine (cau_fault w.heap.size E 0 [] _ a1 a2 a3).mono ?_
    rintro e u' w'' ⟨rfl, rfl, rfl⟩
    refine ⟨.int .i64 E, by simp [results, Tryd.results14, go_sem, b2], .inr ⟨E, w1, rfl, HR.out, rfl⟩⟩
end Go.Proofs.YtippppcdongahaaDoor

namespace Go.Proofs.YtippppcdongahaaDoor
open Go.RowKit Go.Maps
set_option maxRecDepth 20000
set_option linter.unusedVariables false

theorem tr_le {C row : List Int} (p : Nat) : p ≤ trP C row p := by
  unfold trP nxP
  split <;> omega

theorem rl_le {C row : List Int} (want : Nat) : ∀ f acc p, p ≤ (rl C row want f acc p).2.2
  | 0, acc, p => by simp [rl]
  | f + 1, acc, p => by
    unfold rl
    by_cases c0 : acc.length < want
    · rw [if_pos c0]
      by_cases c1 : trE C row p ≠ 0
      · rw [if_pos c1]; exact Nat.le_refl _
      · rw [if_neg c1]
        by_cases c2 : nxS C row p = 16 ∧ acc = []
        · rw [if_pos c2]; exact Nat.le_refl _
        · rw [if_neg c2]
          by_cases c3 : (want : Int) < acc.length + trC C row p
          · rw [if_pos c3]; exact Nat.le_refl _
          · rw [if_neg c3]
            exact Nat.le_trans (tr_le p) (rl_le want f _ _)
    · rw [if_neg c0]; exact Nat.le_refl _

theorem rd_le {row : List Int} {p : Nat} (h : (rdA row p).1 = 0) : p ≤ (rdA row p).2.2.2 := by
  rcases rd_cases row p with ⟨q, _⟩ | ⟨_, h1, h2, ⟨a, q⟩, hx, hk, hr⟩
  · exact absurd h q
  simp only at hx hk hr
  have := rl_le (C := smC row (p + 14) (rcN row p)) (row := row) (rcL row p + rcD row p) (rcL row p + rcD row p) [] (p + 14 + 3 * rcN row p)
  rw [hx] at this
  rw [hr]
  simp only at this ⊢
  omega

theorem sy1_go {l d row : List Int} {L p : Nat} {out : List Int} {b : Bool} {q : Nat} {o : List Int} (hb : Bit row) (hl : dcE l = 0) (h : sy1 l d row L p out = (0, b, q, o)) : p < q ∧ q ≤ row.length ∧ out.length ≤ o.length ∧ o.length ≤ max L out.length := by
  by_cases c0 : syE l row p ≠ 0
  · rw [sy1_bad c0] at h
    injection h with h
    exact absurd h c0
  have c0' : syE l row p = 0 := by omega
  obtain ⟨n1, n2, n3⟩ := nx_lt hl (sy_nx c0')
  rcases Nat.lt_trichotomy (nxS l row p) 256 with c | c | c
  · rw [sy1_lit c0' c] at h
    by_cases c1 : L < out.length + 1
    · rw [if_pos c1] at h; injection h with h; cases h
    · rw [if_neg c1] at h
      injection h with _ h
      injection h with _ h
      injection h with h1 h2
      subst h1; subst h2
      simp
      omega
  · rw [sy1_end c0' c] at h
    injection h with _ h
    injection h with _ h
    injection h with h1 h2
    subst h1; subst h2
    omega
  · rw [sy1_copy c0' c] at h
    by_cases c1 : lgE (nxS l row p) row (nxP l row p) ≠ 0
    · rw [if_pos c1] at h; injection h with h; exact absurd h c1
    rw [if_neg c1] at h
    by_cases c2 : dtE d row (lgP (nxS l row p) (nxP l row p)) ≠ 0
    · rw [if_pos c2] at h; injection h with h; exact absurd h c2
    rw [if_neg c2] at h
    have hd := dtV_le hb (by omega : dtE d row (lgP (nxS l row p) (nxP l row p)) = 0)
    by_cases c3 : agE L out (lgV (nxS l row p) row (nxP l row p)) (dtV d row (lgP (nxS l row p) (nxP l row p))) ≠ 0
    · rw [if_pos c3] at h; injection h with h; exact absurd h c3
    rw [if_neg c3] at h
    injection h with _ h
    injection h with _ h
    injection h with h1 h2
    subst h1; subst h2
    have hg : nxP l row p ≤ lgP (nxS l row p) (nxP l row p) := by unfold lgP; omega
    have ha : out.length + lgV (nxS l row p) row (nxP l row p) ≤ L := by
      unfold agE at c3
      by_cases d1 : out.length < dtV d row (lgP (nxS l row p) (nxP l row p))
      · rw [if_pos d1] at c3; omega
      · rw [if_neg d1] at c3
        by_cases d2 : L < out.length + lgV (nxS l row p) row (nxP l row p)
        · rw [if_pos d2] at c3; omega
        · omega
    rw [cpy_len]
    omega

theorem Sys.lt {l d row : List Int} {L p : Nat} {out : List Int} {e : Int} {q : Nat} {o : List Int} (hb : Bit row) (hl : dcE l = 0) (h : Sys l d row L p out e q o) : (e = 0 → p < q ∧ q ≤ row.length ∧ out.length ≤ o.length ∧ o.length ≤ max L out.length) := by
  induction h with
  | bad h1 h2 => exact fun h => absurd h h2
  | fin h1 => exact fun _ => sy1_go hb hl h1
  | go h1 h2 ih =>
    intro he
    have a := sy1_go hb hl h1
    have b := ih he
    omega

theorem st1_lt {row : List Int} {L p : Nat} {out : List Int} {q : Nat} {o : List Int} (hb : Bit row) (h : st1 row L p out = (0, q, o)) : p < q ∧ q ≤ row.length ∧ out.length ≤ o.length ∧ o.length ≤ max L out.length := by
  unfold st1 at h
  by_cases c0 : row.length < algn p + 32
  · rw [if_pos c0] at h; injection h with h; cases h
  rw [if_neg c0] at h
  by_cases c1 : ahead row (algn p) 16 + ahead row (algn p + 16) 16 ≠ 65535
  · rw [if_pos c1] at h; injection h with h; cases h
  rw [if_neg c1] at h
  by_cases c2 : L < out.length + (ahead row (algn p) 16).toNat
  · rw [if_pos c2] at h; injection h with h; cases h
  rw [if_neg c2] at h
  by_cases c3 : row.length < algn p + 32 + 8 * (ahead row (algn p) 16).toNat
  · rw [if_pos c3] at h; injection h with h; cases h
  rw [if_neg c3] at h
  injection h with _ h
  injection h with h1 h2
  subst h1; subst h2
  have h3 : p ≤ algn p := by unfold algn; omega
  have h4 : (pack ((row.drop (algn p + 32)).take (8 * (ahead row (algn p) 16).toNat))).length = (ahead row (algn p) 16).toNat := by
    rw [length_pack ((hb.drop _).take _), List.length_take, List.length_drop]; omega
  rw [List.length_append, h4]
  omega

theorem Blk.lt {row : List Int} {L p : Nat} {out : List Int} {f : Bool} {k : Int} {q : Nat} {o : List Int} {e : Int} (hb : Bit row) (h : Blk row L p out e f k q o) (he : e = 0) : p < q ∧ q ≤ row.length ∧ out.length ≤ o.length ∧ o.length ≤ max L out.length := by
  cases h with
  | short h1 => cases he
  | three h1 h2 => cases he
  | stored h1 h2 h3 => subst he; have := st1_lt hb h3; omega
  | fixed h1 h2 h3 => have := h3.lt hb fl_ok he; omega
  | head h1 h2 h3 => exact absurd he h3
  | dyn h1 h2 h3 h4 =>
    have := h4.lt hb (rd_good hb h3).1 he
    have := rd_le h3
    omega
end Go.Proofs.YtippppcdongahaaDoor

namespace Go.Proofs.YtippppcdongahaaDoor
open Go.RowKit Go.Maps
set_option maxRecDepth 20000
set_option linter.unusedVariables false

theorem hmayBe (a : Option Addr) (n c : Nat) (limit : Int) (w : World) (b : Bool) (hb : decide (n ≤ 33554432 ∧ 0 ≤ limit ∧ limit ≤ 16777216) = b) :
    Calls Tryd.prog 20 #[.slice a n c, .int .i64 limit] w fun e w' => e = .returned (.bool b) ∧ w' = w := by
  go_enter Tryd.func20, Tryd.ntmps20
  by_cases c0 : n ≤ 33554432
  · have h0 : (n : Int) ≤ 33554432 := by omega
    by_cases c1 : 0 ≤ limit
    · by_cases c2 : limit ≤ 16777216
      · obtain rfl : b = true := by rw [← hb]; exact decide_eq_true ⟨c0, c1, c2⟩
        clear hb
        go_wp2
        go_ret
        exact ⟨rfl, rfl⟩
      · obtain rfl : b = false := by rw [← hb]; exact decide_eq_false (by omega)
        clear hb
        go_wp2
        go_ret
        exact ⟨rfl, rfl⟩
    · obtain rfl : b = false := by rw [← hb]; exact decide_eq_false (by omega)
      clear hb
      go_wp2
      go_ret
      exact ⟨rfl, rfl⟩
  · have h0 : ¬ ((n : Int) ≤ 33554432) := by omega
    obtain rfl : b = false := by rw [← hb]; exact decide_eq_false (by omega)
    clear hb
    go_wp2
    go_ret
    exact ⟨rfl, rfl⟩

theorem Herd.swap {W w : World} {a b : (Nat → Nat) × Thing} (h : Herd W w [a, b]) : Herd W w [b, a] := by
  have f : ∀ (i : Nat) (d : (Nat → Nat) × Thing), [b, a][i]? = some d → ([a, b] : List ((Nat → Nat) × Thing))[1 - i]? = some d ∧ i < 2 := fun i d hd => by
    match i with
    | 0 => exact ⟨hd, by omega⟩
    | 1 => exact ⟨hd, by omega⟩
    | n + 2 => simp at hd
  exact ⟨h.bel, fun i d hd => h.rep _ d (f i d hd).1, fun i d hd => h.up _ d (f i d hd).1, fun i j d e hd he hij => h.sep _ _ d e (f i d hd).1 (f j e he).1 (by have := (f i d hd).2; have := (f j e he).2; omega)⟩

set_option maxHeartbeats 1000000 in
theorem hbegin {w : World} {v : Value} {l : List Int} (h : SB w v l) (hB : Byt l) (limit : Int) :
    Calls Tryd.prog 16 #[v, .int .i64 limit] w fun e w' => ((l.length ≤ 33554432 ∧ 0 ≤ limit ∧ limit ≤ 16777216) ∧ ∃ g r, e = .returned (.pointer (some ⟨g, 0, none⟩)) ∧ TX w w' g r (unpack l) 0 limit.toNat [] false []) ∨ (¬ (l.length ≤ 33554432 ∧ 0 ≤ limit ∧ limit ≤ 16777216) ∧ Off w 1 e w') := by
  have HS := hide h
  obtain ⟨a, c, rfl, -⟩ := h
  have HM := hide (hmayBe a l.length c limit w _ rfl)
  have HB := hide hB
  clear hB
  go_enter Tryd.func16, Tryd.ntmps16
  go_wp2_with fail
  refine HM.out.mono ?_
  rintro e w1 ⟨rfl, hw1⟩
  subst hw1
  by_cases hc : l.length ≤ 33554432 ∧ 0 ≤ limit ∧ limit ≤ 16777216
  · rw [decide_eq_true hc]
    have HC := hide hc
    have HR := hide (hnewR (Herd.nil w1) _ l HS.out HB.out hc.1)
    clear hc
    go_wp2_with fail
    refine HR.out.mono ?_
    rintro e w2 ⟨r, K, rfl, h2⟩
    obtain ⟨L, HL⟩ : ∃ L : Nat, Hid ((L : Int) = limit) := ⟨limit.toNat, by show _ = _; have := HC.out; omega⟩
    have hL : L ≤ 16777216 := by have := HC.out; have := HL.out; omega
    have HLT : Hid (limit.toNat = L) := by show _ = _; have := HL.out; omega
    obtain ⟨K3, h3⟩ := h2.box1 (txO r none 0 0 L false none none)
    have h4 := Herd.swap h3
    have h5 : Herd w1 (w2.alloc (txO r none 0 0 L false none none)) [(K3, tb w2.heap.size (txO r none 0 0 L false none none)), (K, tr r (unpack l) 0), (fun _ => 0, tl (.slice none 0 0) [])] :=
      h4.push (Below.refl _ _) ⟨World.ownsRow_nil _ _ _ _, fun k hk => by simp [Value.ownBlock] at hk, fun k hk => absurd rfl hk⟩ fun k hk => absurd rfl hk
    have HX : Hid (TX w1 (w2.alloc (txO r none 0 0 L false none none)) w2.heap.size r (unpack l) 0 L [] false []) := ⟨_, _, _, none, 0, none, none, h5, .inl ⟨rfl, rfl⟩, Nat.zero_le _, hL⟩
    rw [← HL.out]
    clear h2 h3 h4 h5 HR HM
    go_wp2
    go_ret
    rw [HLT.out]
    exact .inl ⟨HC.out, w2.heap.size, r, rfl, HX.out⟩
  · rw [decide_eq_false hc]
    have HC := hide hc
    clear hc HM
    go_wp2_with fail
    refine (giveUp_any 1 _).mono ?_
    rintro e w2 ⟨rfl, rfl⟩
    go_wp2
    exact ⟨rfl, .inr ⟨HC.out, rfl, Below.refl _ _⟩⟩

theorem ob_up {w : World} {v : Value} {l : List Int} {B : Nat} (h : OB w 0 v l) (hk : ∀ k, v.ownBlock = some k → B ≤ k) : OB w B v l := by
  obtain ⟨h0, h1⟩ := h
  refine ⟨h0, ?_⟩
  rcases h1 with h1 | ⟨g, cap, cur, rfl, h2, h3⟩
  · exact .inl h1
  · exact .inr ⟨g, cap, cur, rfl, hk g rfl, h3⟩

theorem TX.own {W w : World} {g r : Nat} {row : List Int} {p L : Nat} {out : List Int} {dn : Bool} {ys : List ((Nat → Nat) × Thing)} (H : TX W w g r row p L out dn ys) : ∃ a c, w.cell? ⟨g, 1, none⟩ = some (.slice a out.length c) ∧ OB w W.heap.size (.slice a out.length c) out := by
  obtain ⟨Kt, Kr, Ko, a, c, fl, fd, HH, hf, hk⟩ := H
  have h2 : (tl (.slice a out.length c) out).P w Ko := HH.rep 2 _ rfl
  exact ⟨a, c, (txO_cells (HH.tbat 0 rfl)).2.1, ob_up h2.1 fun k hk => HH.up 2 _ rfl k (h2.2.1 k hk)⟩

def Rdg (row : List Int) (L p : Nat) (out : List Int) (dn : Bool) : Prop :=
  (dn = false ∧ ∀ ps E q o, Txt row L p out ps E q o → ∃ ps', Txt row L 0 [] ps' E q o) ∨ (dn = true ∧ ∃ ps, Txt row L 0 [] ps 0 p out)

theorem Rdg.step {row : List Int} {L p : Nat} {out : List Int} {f : Bool} {k : Int} {q : Nat} {o : List Int} (h : Rdg row L p out false) (hb : Blk row L p out 0 f k q o) : Rdg row L q o f := by
  rcases h with ⟨_, h⟩ | ⟨h, _⟩
  · cases f with
    | false => exact .inl ⟨rfl, fun ps E q' o' ht => h _ _ _ _ (Txt.go hb ht)⟩
    | true => exact .inr ⟨rfl, h _ _ _ _ (Txt.last hb)⟩
  · cases h

set_option maxHeartbeats 4000000 in
theorem hinf1 {w : World} {b0 b1 b2 b3 : Nat} {v : Value} {l : List Int} {limit : Int} (c0 : w.cell? ⟨b0, 0, none⟩ = some v) (c1 : w.cell? ⟨b1, 0, none⟩ = some (.int .i64 limit)) (c2 : ∃ u, w.cell? ⟨b2, 0, none⟩ = some u) (c3 : ∃ u, w.cell? ⟨b3, 0, none⟩ = some u) (f2 : w.frozen? ⟨b2, 0, none⟩ = false) (f3 : w.frozen? ⟨b3, 0, none⟩ = false) (h23 : b2 ≠ b3)
    (h : SB w v l) (hB : Byt l) (T : Tab w) (O : Odr w) :
    Calls Tryd.prog 15 #[.pointer (some ⟨b0, 0, none⟩), .pointer (some ⟨b1, 0, none⟩), .pointer (some ⟨b2, 0, none⟩), .pointer (some ⟨b3, 0, none⟩)] w fun e w' => ∃ E n o, Ifl l limit E n o ∧ ((E = 0 ∧ e = .returned (.tuple #[]) ∧ ∃ w1 a c, Below w.heap.size w w1 ∧ OB w1 w.heap.size (.slice a o.length c) o ∧ w' = (w1.setCell ⟨b2, 0, none⟩ (.slice a o.length c)).setCell ⟨b3, 0, none⟩ (.int .i64 n)) ∨ (E ≠ 0 ∧ Off w E e w')) := by
  have HT := hide T
  have HO := hide O
  have HBG := hide (hbegin h hB limit)
  have hb2 : b2 < w.heap.size := by obtain ⟨u, hu⟩ := c2; exact World.block_lt_of_cell? _ _ hu
  have hb3 : b3 < w.heap.size := by obtain ⟨u, hu⟩ := c3; exact World.block_lt_of_cell? _ _ hu
  have HC2 := hide c2
  have HC3 := hide c3
  have HF2 := hide f2
  have HF3 := hide f3
  have HBW := hide hB
  clear T O h hB c2 c3 f2 f3
  go_enter Tryd.func15, Tryd.ntmps15
  go_wp2_with fail
  refine HBG.out.mono ?_
  rintro e w1 (⟨hdom, g, r, rfl, h1⟩ | ⟨hdom, rfl, h1⟩)
  case inr =>
    have HX := hide h1
    have HI : Hid (Ifl l limit 1 0 []) := .inl ⟨hdom, rfl, rfl, rfl⟩
    clear h1 c0 c1 hdom
    go_wp2
    exact ⟨rfl, 1, 0, [], HI.out, .inr ⟨by decide, rfl, HX.out⟩⟩
  obtain ⟨L, HL⟩ : ∃ L : Nat, Hid (L = limit.toNat) := ⟨_, rfl⟩
  rw [← HL.out] at h1
  have HX1 := hide h1
  have HDM := hide hdom
  have HRD : Hid (Rdg (unpack l) L 0 [] false) := .inl ⟨rfl, fun ps E q o ht => ⟨ps, ht⟩⟩
  have HIF : Hid (∀ E q o, (∃ ps, Txt (unpack l) L 0 [] ps E q o) → (E = 0 → Ifl l limit 0 q o) ∧ (E ≠ 0 → Ifl l limit E 0 [])) := fun E q o ⟨ps, ht⟩ => by
    rw [HL.out] at ht
    exact ⟨fun he => .inr ⟨HDM.out, ps, q, o, by rw [← he]; exact ht, .inl ⟨rfl, rfl, rfl⟩⟩, fun he => .inr ⟨HDM.out, ps, q, o, ht, .inr ⟨he, rfl, rfl⟩⟩⟩
  obtain ⟨row, HROW⟩ : ∃ row, Hid (row = unpack l) := ⟨_, rfl⟩
  rw [← HROW.out] at HX1 HRD HIF
  clear h1 hdom HBG c0 c1
  go_wp2
  go_loopw [] (fun wr => ∃ (p' : Nat) (o' : List Int) (dn : Bool) (ys : List ((Nat → Nat) × Thing)), Hid (TX w wr g r row p' L o' dn ys) ∧ Hid (Rdg row L p' o' dn)) (fun wr => row.length + 1 - (intOf ((wr.cell? ⟨r, 1, none⟩).getD undef)).toNat)
  case atStart => exact ⟨0, [], false, [], HX1, HRD⟩
  case round =>
    obtain ⟨p', o', dn, ys, HX, HR⟩ := hrel
    clear HX1 HRD
    have hms : (intOf ((wr.cell? ⟨r, 1, none⟩).getD undef)).toNat = p' := by rw [HX.out.at]; simp [intOf]
    have HMS := hide hms
    obtain ⟨ax, cx, d0, d1, d3, -, -, -, hat⟩ := HX.out.cells
    clear hms
    cases dn with
    | false =>
      have HBK := hide (hblock HX.out HT.out HO.out)
      clear d0 d1 hat
      go_wp2_with fail
      refine HBK.out.mono ?_
      rintro e w2 ⟨E, f, k, q, o, hblk, ⟨rfl, rfl, zs, h2⟩ | ⟨he, rfl, h2⟩⟩
      · have HX2 := hide h2
        have HR2 := hide (HR.out.step hblk)
        have HLT := hide (hblk.lt HX.out.rd.1 rfl)
        clear h2 hblk d3 HBK
        go_wp2
        go_roundw
        case rel => exact ⟨q, o, f, _, HX2, HR2⟩
        case measure =>
          rw [HMS.out, HX2.out.at]
          simp [intOf]
          have := HLT.out
          omega
      · have HX2 := hide h2
        have HI : Hid (Ifl l limit E 0 []) := by
          rcases HR.out with ⟨_, hr⟩ | ⟨hr, _⟩
          · exact (HIF.out E p' o' (hr [] _ _ _ (Txt.bad hblk he))).2 he
          · cases hr
        clear h2 hblk d3
        go_wp2
        exact ⟨rfl, E, 0, [], HI.out, .inr ⟨he, rfl, HX2.out⟩⟩
    | true =>
      have HI : Hid (Ifl l limit 0 p' o') := by
        rcases HR.out with ⟨hr, _⟩ | ⟨_, hr⟩
        · cases hr
        · exact (HIF.out 0 p' o' hr).1 rfl
      obtain ⟨a5, c5, e1, ho5⟩ := HX.out.own
      rw [d1] at e1
      injection e1 with e1
      injection e1 with e1 _ e3
      subst e1; subst e3
      obtain ⟨M, HM⟩ : ∃ M : Nat, Hid (M = o'.length) := ⟨_, rfl⟩
      rw [← HM.out] at d1
      have HAT : Hid (Calls Tryd.prog 18 #[.pointer (some ⟨r, 0, none⟩)] wr.drew fun e w' => e = .returned (.int .i64 p') ∧ w' = wr.drew) := hat 1
      have HO5 := hide ho5
      have hbl := HX.out.bel
      have HBL := hide hbl
      obtain ⟨u2, hu2⟩ := HC2.out
      obtain ⟨u3, hu3⟩ := HC3.out
      have k2 : wr.cell? ⟨b2, 0, none⟩ = some u2 := by rw [hbl.cell hb2]; exact hu2
      have k3 : wr.cell? ⟨b3, 0, none⟩ = some u3 := by rw [hbl.cell hb3]; exact hu3
      have k4 : wr.frozen? ⟨b2, 0, none⟩ = false := by rw [hbl.frozen hb2]; exact HF2.out
      have k5 : wr.frozen? ⟨b3, 0, none⟩ = false := by rw [hbl.frozen hb3]; exact HF3.out
      have h32 : ¬ b3 = b2 := fun e => h23 e.symm
      clear hat ho5 hbl hu2 hu3
      go_wp2
      go_region_with (go_at_call 18; (with_reducible refine HAT.out.mono ?_); rintro e w7 ⟨rfl, hw7⟩; rw [hw7]; clear hw7)
      all_goals
        go_wp2
        (try simp only [Exit.inBlock, Exit.then])
        refine bodyPost_end (results_none rfl _ _ _) rfl ?_
        refine ⟨0, p', o', HI.out, .inl ⟨rfl, rfl, wr.drew, ax, cx, HBL.out.drew, HO5.out.move (fun k hk => rfl), ?_⟩⟩
        rw [← HM.out]
        rfl
end Go.Proofs.YtippppcdongahaaDoor

namespace Go.Proofs.YtippppcdongahaaDoor
open Go.RowKit Go.Maps
set_option maxRecDepth 20000
set_option linter.unusedVariables false
set_option linter.unusedSimpArgs false

def flr (R : List (Array Value)) : List Value := R.flatMap Array.toList

def ORp (T n : Nat) (w : World) (base : Nat) (v : Value) (R : List (Array Value)) : Prop := (∀ r ∈ R, r.size = n) ∧ w.ownsRow base T n v R.length (flr R)

theorem flr_app (R S : List (Array Value)) : flr (R ++ S) = flr R ++ flr S := by simp [flr]

theorem xown_movep {w w' : World} {base : Nat} {e : TypeId} {size : Nat} {v : Value} {n : Nat} {xs : List Value} (h : w.ownsRow base e size v n xs) (hb : ∀ k, v.ownBlock = some k → w'.heap[k]? = w.heap[k]?) : w'.ownsRow base e size v n xs := by
  refine ⟨h.1, ?_⟩
  rcases h.2 with h2 | ⟨g, cap, cur, rfl, h1, h2, r⟩
  · exact .inl h2
  · exact .inr ⟨g, cap, cur, rfl, h1, (hb g rfl).trans h2, r⟩

theorem ORp.lt {T n : Nat} {w : World} {base : Nat} {v : Value} {R : List (Array Value)} (h : ORp T n w base v R) : ∀ k, v.ownBlock = some k → base ≤ k ∧ k < w.heap.size := World.ownsRow.lt h.2
theorem ORp.move {T n : Nat} {w w' : World} {base : Nat} {v : Value} {R : List (Array Value)} (h : ORp T n w base v R) (hb : ∀ k, v.ownBlock = some k → w'.heap[k]? = w.heap[k]?) : ORp T n w' base v R := ⟨h.1, xown_movep h.2 hb⟩
theorem ORp.below {T n : Nat} {w w' : World} {base B : Nat} {v : Value} {R : List (Array Value)} (h : ORp T n w base v R) (hb : Below B w w') (hB : w.heap.size ≤ B) : ORp T n w' base v R := h.move fun k hk => hb.block k (Nat.lt_of_lt_of_le (h.lt k hk).2 hB)
theorem ORp.alloc {T n : Nat} {w : World} {base : Nat} {v : Value} {R : List (Array Value)} (h : ORp T n w base v R) (o : Obj) : ORp T n (w.alloc o) base v R := h.move fun k hk => Below.heap_alloc w o k (h.lt k hk).2
theorem ORp.base {T n : Nat} {w : World} {base base' : Nat} {v : Value} {R : List (Array Value)} (h : ORp T n w base v R) (hb : base' ≤ base) : ORp T n w base' v R := by
  refine ⟨h.1, h.2.1, ?_⟩
  rcases h.2.2 with h2 | ⟨g, cap, cur, rfl, h1, r⟩
  · exact .inl h2
  · exact .inr ⟨g, cap, cur, rfl, Nat.le_trans hb h1, r⟩
theorem ORp.shape {T n : Nat} {w : World} {base : Nat} {v : Value} {R : List (Array Value)} (h : ORp T n w base v R) : ∃ a c, v = .slice a R.length c ∧ R.length ≤ c ∧ c ≤ 9223372036854775807 := by
  rcases h.2.2 with ⟨rfl, h0⟩ | ⟨g, cap, cur, rfl, _, _, h3, h4, _⟩
  · exact ⟨none, 0, by rw [h0], by omega, by omega⟩
  · unfold maxLen at h4; exact ⟨_, _, rfl, h3, by omega⟩
theorem ORp.nil (T n : Nat) (w : World) (base : Nat) : ORp T n w base (.slice none 0 0) [] := ⟨fun r hr => by simp at hr, World.ownsRow_nil _ _ _ _⟩
theorem wpRowp {w : World} {ops : Array Oper} {rest : List Oper} {o : Oper} {a : Act} {Q : Exit → Act → World → Prop} (hgd : o.guard = none) (s x : Operand) (TS T n bytes : Nat) (z : Value)
    (ho : o.op = .call { callee := .builtin .append, args := #[s, x], argTypes := #[TS, TS] }) (ht : Tryd.prog.underlying TS = some (.slice T))
    (hinf : (Tryd.prog.info? T).map (fun i => (i.zero, i.size, i.bytes)) = some (some z, n, bytes)) (hzs : z.cells.size = n) (hn : 0 < n)
    (base : Nat) (v : Value) (R : List (Array Value)) (r : Array Value) (B c : Nat) (fr : Nat × Nat) (hs : a.eval s = v) (hown : ORp T n w base v R)
    (hx : a.eval x = .slice (some ⟨B, 0, none⟩) 1 c) (hB : w.heap[B]? = some (.cells r T fr)) (hr : r.size = n) (h1 : ∀ u ∈ r.toList, u.oneCell' = true)
    (hlen : R.length < 9007199254740992) (hbytes : (R.length + 1) * bytes ≤ 140737488355328) (hbase : base ≤ w.heap.size)
    (h : ∀ v' w', ORp T n w' base v' (R ++ [r]) → w.grownBy w' v.ownBlock → (v'.ownBlock = v.ownBlock ∨ v'.ownBlock = some w.heap.size) → wpList Tryd.prog ops Q rest (a.put o.dst v') w') : wpList Tryd.prog ops Q (o :: rest) a w := by
  obtain ⟨i0, hi0, hz0, hz1, hz2⟩ := info_parts hinf
  refine wpList_append_own_at _ hgd s x TS ho base T i0 z n bytes ht hi0 hz0 hz1 hz2 hzs hn v R.length (flr R) hs hown.2 ⟨B, 0, none⟩ 1 c r.toList hx (by rw [Array.length_toList, hr, Nat.one_mul]) (World.news_of_block hB) h1 (by unfold maxLen; omega) hbytes hbase fun v' w' g1 g2 _ g4 => h v' w' ⟨?_, ?_⟩ g2 g4
  · intro q hq
    rcases List.mem_append.1 hq with hq | hq
    · exact hown.1 q hq
    · rw [List.mem_singleton.1 hq]; exact hr
  · rw [List.length_append, flr_app]
    simpa [flr] using g1
end Go.Proofs.YtippppcdongahaaDoor

namespace Go.Proofs.YtippppcdongahaaDoor
open Go.RowKit Go.Maps
set_option maxRecDepth 20000
set_option linter.unusedVariables false

def pcq (b : Pc) : Array Value := #[.int .i64 b.kind, .bool b.fin, .int .i64 b.at0, .int .i64 b.at1, .int .i64 b.to0, .int .i64 b.to1]

def Wlk (data : List Int) (limit E : Int) (R : List Pc) : Prop :=
  (¬ (data.length ≤ 33554432 ∧ 0 ≤ limit ∧ limit ≤ 16777216) ∧ E = 1 ∧ R = []) ∨
  ((data.length ≤ 33554432 ∧ 0 ≤ limit ∧ limit ≤ 16777216) ∧ ∃ ps q o', Txt (unpack data) limit.toNat 0 [] ps E q o' ∧ ((E = 0 ∧ R = ps) ∨ (E ≠ 0 ∧ R = [])))

def Wans (w : World) (l : List Int) (limit : Int) (e : Ending) (w' : World) : Prop :=
  ∃ E R a c, Wlk l limit E R ∧ e = .returned (.tuple #[.slice a R.length c, .int .i64 E]) ∧ ORp 36 6 w' w.heap.size (.slice a R.length c) (R.map pcq) ∧ Below w.heap.size w w' ∧ R.length ≤ 268435456

theorem orp_up {w : World} {v : Value} {R : List (Array Value)} {B T n : Nat} (h : ORp T n w 0 v R) (hk : ∀ k, v.ownBlock = some k → B ≤ k) : ORp T n w B v R := by
  obtain ⟨hs, h0, h1⟩ := h
  refine ⟨hs, h0, ?_⟩
  rcases h1 with h1 | ⟨g, cap, cur, rfl, h2, h3⟩
  · exact .inl h1
  · exact .inr ⟨g, cap, cur, rfl, hk g rfl, h3⟩

def Wdg (row : List Int) (L p : Nat) (out : List Int) (dn : Bool) (pre : List Pc) : Prop :=
  (dn = false ∧ ∀ ps E q o, Txt row L p out ps E q o → Txt row L 0 [] (pre ++ ps) E q o) ∨ (dn = true ∧ Txt row L 0 [] pre 0 p out)

theorem Wdg.step {row : List Int} {L p : Nat} {out : List Int} {pre : List Pc} {f : Bool} {k : Int} {q : Nat} {o : List Int} (h : Wdg row L p out false pre) (hb : Blk row L p out 0 f k q o) : Wdg row L q o f (pre ++ [⟨k, f, p, q, out.length, o.length⟩]) := by
  rcases h with ⟨_, h⟩ | ⟨h, _⟩
  · cases f with
    | false => exact .inl ⟨rfl, fun ps E q' o' ht => by rw [List.append_assoc]; exact h _ _ _ _ (Txt.go hb ht)⟩
    | true => exact .inr ⟨rfl, h _ _ _ _ (Txt.last hb)⟩
  · cases h

theorem Wdg.bad {row : List Int} {L p : Nat} {out : List Int} {pre : List Pc} {f : Bool} {k : Int} {q : Nat} {o : List Int} {E : Int} (h : Wdg row L p out false pre) (hb : Blk row L p out E f k q o) (he : E ≠ 0) : ∃ ps q' o', Txt row L 0 [] ps E q' o' := by
  rcases h with ⟨_, h⟩ | ⟨h, _⟩
  · exact ⟨_, _, _, h _ _ _ _ (Txt.bad hb he)⟩
  · cases h

theorem Txt.count {row : List Int} {L p : Nat} {out : List Int} {ps : List Pc} {e : Int} {q : Nat} {o : List Int} (hb : Bit row) (h : Txt row L p out ps e q o) : e = 0 → ps.length + p ≤ q ∧ q ≤ row.length := by
  induction h with
  | bad h1 h2 => exact fun e => absurd e h2
  | last h1 => intro _; have := h1.lt hb rfl; simp only [List.length_singleton]; omega
  | go h1 h2 ih => intro e; have := h1.lt hb rfl; have := ih e; simp only [List.length_cons]; omega

def tpq (v : Value) (R : List (Array Value)) : Thing :=
  ⟨fun w K => ORp 36 6 w 0 v R ∧ (∀ k, v.ownBlock = some k → K k ≠ 0) ∧ ∀ k, K k ≠ 0 → k < w.heap.size,
   fun h a b => ⟨h.1.move fun k hk => b k (h.2.1 k hk), h.2.1, fun k hk => Nat.lt_of_lt_of_le (h.2.2 k hk) a⟩, fun h => h.2.2⟩

theorem td_tpq {w : World} {K : Nat → Nat} {v : Value} {R : List (Array Value)} {gl : Nat} {l : List Int} (h : (tpq v R).P w K) : tpq v R ≠ td gl l := by
  intro e
  have hd : Dp w K gl l := by
    have : (td gl l).P w K := by rw [← e]; exact h
    exact this
  obtain ⟨vl, vw, vs, sy, a1, _⟩ := hd.d
  have hbg : v.ownBlock ≠ some gl := fun e => by
    rcases h.1.2.2 with ⟨rfl, _⟩ | ⟨g, cap, cur, rfl, _, h2, _⟩
    · simp [Value.ownBlock] at e
    · simp only [Value.ownBlock, Option.some.injEq] at e
      subst e
      rw [a1] at h2
      injection h2 with h2
      injection h2 with _ h2
      exact absurd h2 (by decide)
  have hgs : gl < w.heap.size := by
    rcases Nat.lt_or_ge gl w.heap.size with q | q
    · exact q
    · rw [Array.getElem?_eq_none q] at a1; cases a1
  have h3 : (tpq v R).P { w with heap := w.heap.setIfInBounds gl (.cells #[] 36 (0, 0)) } K :=
    ⟨h.1.move fun k hk => by show (w.heap.setIfInBounds gl _)[k]? = _; rw [Array.getElem?_setIfInBounds_ne (fun e => hbg (by rw [hk, e]))], h.2.1, fun k hk => by show k < (w.heap.setIfInBounds gl _).size; rw [Array.size_setIfInBounds]; exact h.2.2 k hk⟩
  rw [e] at h3
  have hd2 : Dp { w with heap := w.heap.setIfInBounds gl (.cells #[] 36 (0, 0)) } K gl l := h3
  obtain ⟨vl', vw', vs', sy', a1', _⟩ := hd2.d
  have a2 : (w.heap.setIfInBounds gl (.cells #[] 36 (0, 0)))[gl]? = _ := a1'
  rw [Array.getElem?_setIfInBounds_self_of_lt hgs] at a2
  injection a2 with a2
  injection a2 with _ h2
  exact absurd h2 (by decide)

theorem Herd.under {W w : World} {xs : List ((Nat → Nat) × Thing)} (H : Herd W w xs) {b : Nat} (hb : b < W.heap.size) (k : Nat) (u : Value) : Herd (W.setCell ⟨b, k, none⟩ u) (w.setCell ⟨b, k, none⟩ u) xs := by
  have hm : ∀ j, j ≠ b → (w.setCell ⟨b, k, none⟩ u).heap[j]? = w.heap[j]? := fun j hj => setCell_others w b k u j hj
  refine ⟨⟨H.bel.os, H.bel.tape, H.bel.output, by rw [size_setCell, size_setCell]; exact H.bel.size, fun j hj => ?_⟩, fun i d hd => d.2.far (H.rep i d hd) (by rw [size_setCell]; exact Nat.le_refl _) (fun j hj => hm j (fun e => by have := H.up i d hd j hj; omega)), fun i d hd j hj => by rw [size_setCell]; exact H.up i d hd j hj, H.sep⟩
  rw [size_setCell] at hj
  have e0 := H.bel.block j hj
  by_cases e : j = b
  · subst e
    simp only [World.setCell, Array.getElem?_modify, e0]
  · rw [hm j e, setCell_others W b k u j e]; exact e0

theorem TX.under {W w : World} {g r : Nat} {row : List Int} {p L : Nat} {out : List Int} {dn : Bool} {ys : List ((Nat → Nat) × Thing)} (H : TX W w g r row p L out dn ys) {b : Nat} (hb : b < W.heap.size) (k : Nat) (u : Value) : TX (W.setCell ⟨b, k, none⟩ u) (w.setCell ⟨b, k, none⟩ u) g r row p L out dn ys := by
  obtain ⟨Kt, Kr, Ko, a, c, fl, fd, HH, hf, hk⟩ := H
  exact ⟨Kt, Kr, Ko, a, c, fl, fd, HH.under hb k u, hf, hk⟩

theorem TX.pcs {W w : World} {g r : Nat} {row : List Int} {p L : Nat} {out : List Int} {dn : Bool} {K : Nat → Nat} {v : Value} {R : List (Array Value)} {ys : List ((Nat → Nat) × Thing)} (H : TX W w g r row p L out dn ((K, tpq v R) :: ys)) : ORp 36 6 w W.heap.size v R := by
  obtain ⟨Kt, Kr, Ko, a, c, fl, fd, HH, hf, hk⟩ := H
  have h3 : (tpq v R).P w K := HH.rep 3 _ rfl
  exact orp_up h3.1 fun k hk => HH.up 3 _ rfl k (h3.2.1 k hk)

theorem TX.pgrow {W w w1 w6 : World} {g r : Nat} {row : List Int} {p L : Nat} {out : List Int} {dn : Bool} {K : Nat → Nat} {v : Value} {R R' : List (Array Value)} {ys : List ((Nat → Nat) × Thing)} (H : TX W w g r row p L out dn ((K, tpq v R) :: ys)) (hb : Below w.heap.size w w1)
    {b n cap : Nat} (ho : ORp 36 6 w6 0 (.slice (some ⟨b, 0, none⟩) n cap) R') (hg : w1.grownBy w6 v.ownBlock) (hat : v.ownBlock = some b ∨ b = w1.heap.size) :
    ∃ K', TX W w6 g r row p L out dn ((K', tpq (.slice (some ⟨b, 0, none⟩) n cap) R') :: ys) := by
  obtain ⟨Kt, Kr, Ko, a, c, fl, fd, HH, hf, hk⟩ := H
  have H1 := HH.below hb
  have hp : (tpq v R).P w1 K := H1.rep 3 _ rfl
  have h4 := H1.op 3 rfl (x' := tpq (.slice (some ⟨b, 0, none⟩) n cap) R') (K' := fun k => if k < w1.heap.size then K k else if b = k then 1 else 0) (w' := w6) ⟨ho, fun k hk => ?_, fun k hk => ?_⟩ ⟨hg.os, hg.tape, hg.output, hg.size, fun k hk h0 => hg.block k hk (fun e => hp.2.1 k e.symm h0), fun k hk => by simp [hk]⟩
  · simp only [List.set_cons_succ, List.set_cons_zero] at h4
    refine ⟨_, Kt, Kr, Ko, a, c, fl, fd, h4, ?_, hk⟩
    rcases hf with hf | ⟨gl, gd, i, j, Kl, Kd, h1, h2, h3, h4⟩
    · exact .inl hf
    · have hne : ∀ {q : Nat} {l : List Int} {K2 : Nat → Nat}, (K, tpq v R) ≠ (K2, td q l) := fun e => by injection e with _ e; exact td_tpq hp e
      exact .inr ⟨gl, gd, i, j, Kl, Kd, h1, h2, get_over (ys := []) h3 hne, get_over (ys := []) h4 hne⟩
  · have hk' : b = k := by injection hk
    subst hk'
    by_cases c0 : b < w1.heap.size
    · simp only [c0, if_true]
      rcases hat with e | e
      · exact hp.2.1 b e
      · omega
    · simp [c0]
  · by_cases c0 : k < w1.heap.size
    · exact Nat.lt_of_lt_of_le c0 hg.size
    · simp only [c0, if_false] at hk
      by_cases c1 : b = k
      · subst c1
        exact (ho.lt b rfl).2
      · simp [c1] at hk
end Go.Proofs.YtippppcdongahaaDoor

namespace Go.Proofs.YtippppcdongahaaDoor
open Go.RowKit Go.Maps
set_option maxRecDepth 20000
set_option linter.unusedVariables false

theorem infoPcq : (Tryd.prog.info? 36).map (fun i => (i.zero, i.size, i.bytes)) = some (some (.agg #[.int .i64 0, .bool false, .int .i64 0, .int .i64 0, .int .i64 0, .int .i64 0]), 6, 48) := by kernel_rfl

theorem stepRowq {w : World} {ops : Array Oper} {o : Oper} {a : Act} {K : Act → World → Prop} {Q : Exit → Act → World → Prop} {E : Prop} (hgd : o.guard = none) (s x : Operand)
    (ho : o.op = .call { callee := .builtin .append, args := #[s, x], argTypes := #[28, 28] })
    (base : Nat) (v : Value) (R : List (Array Value)) (r : Array Value) (B c n m : Nat) (fr : Nat × Nat) (hs : a.eval s = v) (hown : ORp 36 6 w base v R)
    (hx : a.eval x = .slice (some ⟨B, 0, none⟩) 1 c) (hB : w.heap[B]? = some (.cells r 36 fr)) (hr : r.size = 6) (h1 : ∀ u ∈ r.toList, u.oneCell' = true)
    (hlen : R.length ≤ 268435456) (hm : m = R.length + 1) (hbase : base ≤ w.heap.size)
    (h : ∀ g cap w', ORp 36 6 w' base (.slice (some ⟨g, 0, none⟩) m cap) (R ++ [r]) → w.grownBy w' v.ownBlock → (v.ownBlock = some g ∨ g = w.heap.size) → K (a.put o.dst (.slice (some ⟨g, 0, none⟩) m cap)) w') :
    if Region.wanted o (yielded ops a.tmps) = true then Oper.wp Tryd.prog o a w K Q else E := by
  subst hm
  obtain ⟨i0, hi0, hz0, hz1, hz2⟩ := info_parts infoPcq
  have hw : Region.wanted o (yielded ops a.tmps) = true := by simp [Region.wanted, hgd]
  rw [if_pos hw]
  refine wp_append_lies _ s x 28 ho base 36 i0 _ 6 48 Tryd.underlying28 hi0 hz0 hz1 hz2 rfl (by omega) v R.length (flr R) hs hown.2 ⟨B, 0, none⟩ 1 c r.toList hx (by rw [Array.length_toList, hr, Nat.one_mul]) (World.news_of_block hB) h1 (by omega) (by unfold maxLen; omega) (by omega) hbase _ rfl fun g cap w' g1 g2 g4 _ => h g cap w' ⟨?_, ?_⟩ g2 g4
  · intro q hq
    rcases List.mem_append.1 hq with hq | hq
    · exact hown.1 q hq
    · rw [List.mem_singleton.1 hq]; exact hr
  · rw [List.length_append, flr_app]
    simpa [flr] using g1

theorem step_callP {P : Program} {ops : Array Oper} {o : Oper} {a : Act} {w : World} {K : Act → World → Prop} {Q : Exit → Act → World → Prop} {E : Prop} (hgd : o.guard = none) (x : Operand) (t : TypeId) (f : FuncId)
    (ho : o.op = .call { callee := .value (.func f), args := #[x], argTypes := #[t] }) (hcall : ∀ args w, (callFunc f args).run P w = .ok (.enter f args) w) (v : Value) (hx : a.eval x = v) {R : Value → World → Prop} {R' : List PanicEntry → World → Prop}
    (hc : Calls P f #[v] w fun e w' => (∃ u, e = .returned u ∧ R u w') ∨ ∃ ch, e = .panicked ch ∧ R' ch w') (hp : ∀ ch w', R' ch w' → Q (.panic ch) a w') (h : ∀ v w', R v w' → K (a.put o.dst v) w') :
    if Region.wanted o (yielded ops a.tmps) = true then Oper.wp P o a w K Q else E := by
  have hw : Region.wanted o (yielded ops a.tmps) = true := by simp [Region.wanted, hgd]
  rw [if_pos hw]
  have hrun : (execOp a.eval o).run P w = .ok (.enter f #[v]) w := by
    obtain ⟨dst, op, type, pos, after, guard⟩ := o
    simp only [] at ho
    subst ho
    rw [execOp_call_go, hcall]
    simp [hx]
  unfold Oper.wp
  rw [hrun, Oper.upon_enter]
  refine hc.mono fun e w'' hh => ?_
  rcases hh with ⟨v, rfl, hr⟩ | ⟨ch, rfl, hr⟩
  · exact h _ _ hr
  · exact hp _ _ hr
end Go.Proofs.YtippppcdongahaaDoor

