import Derived.Test.YtijmmfimkibgbaaRows
import Derived.WalkKit
import Derived.ProofKit
import Derived.OpenShut
import Derived.ShutString
import Derived.ChangeOld
import Derived.Below
import Derived.WalkLawsBesides
import Derived.WalkSpells
import Derived.Deep.QuietTactic
import Derived.BigQuiet
import Derived.Laws.CopyOwn
import Derived.SizedLaws
import Derived.Maps.Own
namespace Go.Proofs.Ytijmmfimkibgbaa
open Go.RowKit

def SB (w : World) (v : Value) (l : List Int) : Prop :=
  ∃ ao cap, v = .slice ao l.length cap ∧ l.length ≤ cap ∧ cap ≤ maxLen ∧ (ao = none → cap = 0) ∧ ∀ x, ao = some x → ∀ i, i < l.length → w.cell? (x.add i) = some (.int .u8 (l.getD i 0))

def OB (w : World) (base : Nat) (v : Value) (l : List Int) : Prop := w.ownsRow base 5 1 v l.length (l.map (Value.int .u8))

theorem hide {p : Prop} (h : p) : Hid p := h
theorem unhide {p : Prop} (h : Hid p) : p := h

theorem add_block (x : Addr) (i : Nat) : (x.add i).block = x.block := by unfold Addr.add; split <;> rfl

theorem SB.move {w w' : World} {v : Value} {l : List Int} (h : SB w v l) (hc : ∀ a u, w.cell? a = some u → v.ownBlock = some a.block → w'.cell? a = some u) : SB w' v l := by
  obtain ⟨ao, cap, rfl, h1, h2, h3, h4⟩ := h
  refine ⟨ao, cap, rfl, h1, h2, h3, fun x hx i hi => hc _ _ (h4 x hx i hi) ?_⟩
  subst hx; simp [Value.ownBlock, add_block]

theorem SB.below {w w' : World} {v : Value} {l : List Int} (h : SB w v l) (hb : Below w.heap.size w w') : SB w' v l :=
  h.move fun a _ ha _ => (hb.cell (World.block_lt_of_cell? w a ha)).trans ha

theorem OB.lt {w : World} {base : Nat} {v : Value} {l : List Int} (h : OB w base v l) : ∀ k, v.ownBlock = some k → base ≤ k ∧ k < w.heap.size := World.ownsRow.lt h

theorem OB.sb {w : World} {base : Nat} {v : Value} {l : List Int} (h : OB w base v l) : SB w v l := by
  have hc := @World.ownsRow.cells _ _ _ _ _ _ _ h
  rcases h.2 with ⟨rfl, h0⟩ | ⟨g, cap, cur, rfl, _, _, h3, h4, _, _⟩
  · obtain rfl : l = [] := List.eq_nil_of_length_eq_zero h0
    exact ⟨none, 0, rfl, Nat.le_refl _, Nat.zero_le _, fun _ => rfl, fun x hx => by cases hx⟩
  · refine ⟨some ⟨g, 0, none⟩, cap, rfl, h3, h4, (fun e => by cases e), fun x hx i hi => ?_⟩
    cases hx
    refine hc (g := g) rfl i _ ?_
    simp [hi]

theorem OB.shape {w : World} {base : Nat} {v : Value} {l : List Int} (h : OB w base v l) : ∃ a c, v = .slice a l.length c := by
  rcases h.2 with ⟨rfl, h0⟩ | ⟨g, cap, cur, rfl, _⟩
  · exact ⟨none, 0, by rw [h0]⟩
  · exact ⟨_, _, rfl⟩

theorem OB.move {w w' : World} {base : Nat} {v : Value} {l : List Int} (h : OB w base v l) (hb : ∀ k, v.ownBlock = some k → w'.heap[k]? = w.heap[k]?) : OB w' base v l := by
  refine ⟨h.1, ?_⟩
  rcases h.2 with h2 | ⟨g, cap, cur, rfl, h1, h2, r⟩
  · exact .inl h2
  · exact .inr ⟨g, cap, cur, rfl, h1, (hb g rfl).trans h2, r⟩

theorem OB.base {w : World} {base base' : Nat} {v : Value} {l : List Int} (h : OB w base v l) (hb : base' ≤ base) : OB w base' v l := by
  refine ⟨h.1, ?_⟩
  rcases h.2 with h2 | ⟨g, cap, cur, rfl, h1, r⟩
  · exact .inl h2
  · exact .inr ⟨g, cap, cur, rfl, Nat.le_trans hb h1, r⟩

theorem OB.below {w w' : World} {base B : Nat} {v : Value} {l : List Int} (h : OB w base v l) (hb : Below B w w') (hB : w.heap.size ≤ B) : OB w' base v l :=
  h.move fun k hk => hb.block k (Nat.lt_of_lt_of_le (h.lt k hk).2 hB)

theorem size_alloc' (w : World) (o : Obj) : (w.alloc o).heap.size = w.heap.size + 1 := by simp

theorem heap_two (w : World) (o p : Obj) : ((w.alloc o).alloc p).heap[w.heap.size + 1]? = some p ∧ ((w.alloc o).alloc p).heap[w.heap.size]? = some o := by
  have e := heap_alloc_new (w.alloc o) p
  rw [size_alloc'] at e
  exact ⟨e, (Below.heap_alloc (w.alloc o) p w.heap.size (by rw [size_alloc']; omega)).trans (heap_alloc_new w o)⟩

theorem info5 : (Try.prog.info? 5).map (fun i => (i.zero, i.size, i.bytes)) = some (some (.int .u8 0), 1, 1) := by kernel_rfl

theorem madeBytes (n : Nat) : (madeCells #[Value.int .u8 0] n).toList = List.replicate n (Value.int .u8 0) := by
  have e : ∀ k : Nat, [Value.int IntKind.u8 0][k % 1]?.getD default = Value.int .u8 0 := fun k => by simp [Nat.mod_one]
  simp only [madeCells]
  simp [e, List.map_const']

theorem ownsRow_full {w : World} {base g n : Nat} {xs : List Value} (h : w.ownsRow base 5 1 (.slice (some ⟨g, 0, none⟩) n n) n xs) : w.heap[g]? = some (.cells xs.toArray 5 (0, 0)) ∧ base ≤ g := by
  obtain ⟨hl, h | ⟨g', cap, cur, he, hb, hg, _, _, hs, ht⟩⟩ := h
  · exact absurd h.1 (by simp)
  · simp only [Value.slice.injEq, Option.some.injEq, Addr.mk.injEq] at he
    obtain ⟨⟨rfl, -, -⟩, -, rfl⟩ := he
    have : cur = xs.toArray := by
      apply Array.ext'
      rw [← ht, List.take_of_length_le (by simp [hs])]
    exact ⟨by rw [hg, this], hb⟩

theorem OB.of_full {w : World} {base g : Nat} {l : List Int} (hg : w.heap[g]? = some (.cells (l.map (Value.int .u8)).toArray 5 (0, 0))) (hb : base ≤ g) (hm : l.length ≤ maxLen) : OB w base (.slice (some ⟨g, 0, none⟩) l.length l.length) l :=
  ⟨by simp, .inr ⟨g, l.length, _, rfl, hb, hg, Nat.le_refl _, hm, by simp, List.take_of_length_le (by simp)⟩⟩

theorem splice_all {α : Type} (L cs : List α) (h : cs.length = L.length) : splice L 0 cs = cs := by
  simp [splice, h]

theorem addr_lit {w : World} {x : Addr} {u : Value} (h : w.cell? (x.add 0) = some u) : ∃ b o, x = ⟨b, o, none⟩ := by
  have hs := World.cell?_spot h
  obtain ⟨b, o, s⟩ := x
  refine ⟨b, o, ?_⟩
  unfold Addr.add at hs
  cases s with
  | none => rfl
  | some q => simp at hs

theorem take_step {l1 l2 : List Int} {k : Nat} (h1 : k < l1.length) (hl : l1.length = l2.length) (ht : l1.take k = l2.take k) :
    (l1.getD k 0 = l2.getD k 0 → l1.take (k + 1) = l2.take (k + 1)) ∧ (l1.getD k 0 ≠ l2.getD k 0 → l1 ≠ l2) := by
  refine ⟨fun h => ?_, fun h e => h (by rw [e])⟩
  have e1 : l1.getD k 0 = l1[k] := by simp [h1]
  have e2 : l2.getD k 0 = l2[k]'(by omega) := by simp [show k < l2.length by omega]
  rw [e1, e2] at h
  rw [List.take_succ_eq_append_getElem h1, List.take_succ_eq_append_getElem (by omega), ht, h]
end Go.Proofs.Ytijmmfimkibgbaa

namespace Go.Proofs.Ytijmmfimkibgbaa
open Go.RowKit

theorem sizeByte : (Try.prog.info? 5).map (·.size) = some 1 := by kernel_rfl

theorem slicesClone_any (v : Value) (l : List Int) (w : World) (h : SB w v l) (hr : l.length ≤ 140737488351232) :
    Calls Try.prog 45 #[v] w fun e w' => ∃ a c, e = .returned (.slice a l.length c) ∧ OB w' w.heap.size (.slice a l.length c) l ∧ Below w.heap.size w w' := by
  obtain ⟨ao, cap, rfl, hlc, hcm, hnil, hcell⟩ := h
  obtain ⟨i0, hi, hz0, hz1, hz2⟩ := info_parts info5
  have he := fun (w : World) (a : Option Addr) (n c : Nat) => Lib.run_eql_slice_nil (P := Try.prog) w 31 5 a n c 0 0 Try.underlying31
  cases ao with
  | none =>
    obtain rfl : cap = 0 := hnil rfl
    obtain rfl : l = [] := List.eq_nil_of_length_eq_zero (by omega)
    go_enter Try.func45, Try.ntmps45
    go_wp2
    go_ret
    exact ⟨_, _, rfl, World.ownsRow_nil _ _ _ _, Below.refl _ _⟩
  | some x =>
    go_enter Try.func45, Try.ntmps45
    obtain ⟨cs, hcs⟩ : ∃ cs, cs = l.map (Value.int .u8) := ⟨_, rfl⟩
    have HS : Hid (cs = l.map (Value.int .u8)) := hcs
    clear hcs
    have O1 : Hid ((w.alloc (.cells #[] 5)).ownsRow w.heap.size 5 1 (.slice (some ⟨w.heap.size, 0, none⟩) 0 0) 0 []) := World.ownsRow_made w #[] 0 (Nat.le_refl _) (Nat.zero_le _) rfl
    have C1 : Hid (cs.length = l.length * 1) := by show _ = _; rw [HS.out]; simp
    have C2 : Hid (∀ j v, cs[j]? = some v → (w.alloc (.cells #[] 5)).cell? (x.add j) = some v) := by
      intro j u hj
      rw [HS.out] at hj
      obtain ⟨hjl, rfl⟩ := List.getElem?_eq_some_iff.1 hj
      have hjl' : j < l.length := by simpa using hjl
      have hc := hcell x rfl j hjl'
      rw [((Below.refl _ _).alloc (Nat.le_refl _) _).cell (by have := World.block_lt_of_cell? _ _ hc; exact this), hc]
      simp [hjl']
    have C4 : Hid (∀ v ∈ cs, v.oneCell' = true) := by rw [HS.out]; intro u hu; obtain ⟨n, _, rfl⟩ := List.mem_map.1 hu; rfl
    clear hcell hnil
    go_wp2_with (at_builtin; refine wpList_append_own _ rfl _ _ 31 rfl w.heap.size 5 i0 (.int .u8 0) 1 1 Try.underlying31 hi hz0 hz1 hz2 rfl (by decide) _ 0 [] rfl O1.out x l.length cap cs rfl C1.out C2.out C4.out (by unfold maxLen; omega) (by omega) (by simp) ?_)
    intro v' w1 hown hgrow _
    have HF : Hid (OB w1 w.heap.size v' l) := by
      have h := hown
      rw [HS.out] at h
      exact show OB _ _ _ _ by simpa [OB] using h
    have hb : Below w.heap.size w w1 := ((Below.refl _ _).alloc (Nat.le_refl _) _).grown hgrow (by simp) (fun k hk => by simp [Value.ownBlock] at hk; omega)
    clear hown hgrow
    go_wp2
    go_ret
    obtain ⟨a, c, hv⟩ := HF.out.shape
    rw [hv] at HF ⊢
    exact ⟨a, c, rfl, HF.out, hb⟩

def eqB (l1 l2 : List Int) : Bool := decide (l1 = l2)

theorem same_any (v1 v2 : Value) (l1 l2 : List Int) (w : World) (h1 : SB w v1 l1) (h2 : SB w v2 l2) :
    Calls Try.prog 9 #[v1, v2] w fun e w' => e = .returned (.bool (eqB l1 l2)) ∧ ∃ n, w' = w.drewN n := by
  obtain ⟨ao1, cap1, rfl, hlc1, hcm1, hnil1, hcell1⟩ := h1
  obtain ⟨ao2, cap2, rfl, hlc2, hcm2, hnil2, hcell2⟩ := h2
  unfold maxLen at hcm1 hcm2
  by_cases hne : l1.length = l2.length
  case neg =>
    have hd : ((l1.length : Int) == l2.length) = false := by simp; omega
    have hd' : ((l1.length : Int) != l2.length) = true := by simp; omega
    have HE : Hid (eqB l1 l2 = false) := by show _ = _; simp [eqB]; intro h; exact hne (by rw [h])
    clear hne
    go_enter Try.func9, Try.ntmps9
    go_wp2
    go_ret
    rw [HE.out]
    exact ⟨rfl, 0, rfl⟩
  case pos =>
    have hd' : ((l1.length : Int) != l2.length) = false := by simp; omega
    have HNE : Hid (l1.length = l2.length) := hne
    by_cases h0 : l1.length = 0
    · obtain rfl : l1 = [] := List.eq_nil_of_length_eq_zero h0
      obtain rfl : l2 = [] := List.eq_nil_of_length_eq_zero (by omega)
      clear hne hcell1 hcell2 hnil1 hnil2
      go_enter Try.func9, Try.ntmps9
      go_wp2
      refine wp_loop_rounds 1 ?_
      rw [rounds_succ]
      go_wp2
      go_ret
      exact ⟨by simp [eqB], 0, rfl⟩
    · cases ao1 with
      | none => have := hnil1 rfl; omega
      | some x1 =>
      cases ao2 with
      | none => have := hnil2 rfl; omega
      | some x2 =>
      obtain ⟨b1, o1, rfl⟩ := addr_lit (hcell1 x1 rfl 0 (by omega))
      obtain ⟨b2, o2, rfl⟩ := addr_lit (hcell2 x2 rfl 0 (by omega))
      have g1 : ∀ k, k < l1.length → w.cell? ⟨b1, o1 + k, none⟩ = some (.int .u8 (l1.getD k 0)) := fun k hk => by have := hcell1 _ rfl k hk; rwa [Addr.add_lit] at this
      have g2 : ∀ k, k < l1.length → w.cell? ⟨b2, o2 + k, none⟩ = some (.int .u8 (l2.getD k 0)) := fun k hk => by have := hcell2 _ rfl k (by omega); rwa [Addr.add_lit] at this
      clear hcell1 hcell2 hnil1 hnil2 hne
      have G1 : Hid (∀ k, k < l1.length → w.cell? ⟨b1, o1 + k, none⟩ = some (.int .u8 (l1.getD k 0))) := g1
      have G2 : Hid (∀ k, k < l1.length → w.cell? ⟨b2, o2 + k, none⟩ = some (.int .u8 (l2.getD k 0))) := g2
      clear g1 g2
      go_enter Try.func9, Try.ntmps9
      go_wp2
      go_loopw [5] (fun i wr => ∃ k n : Nat, k ≤ l1.length ∧ i = .int .i64 k ∧ wr = w.drewN n ∧ Hid (l1.take k = l2.take k)) (fun i _ => l1.length - (intOf i).toNat)
      case atStart => exact ⟨0, 0, Nat.zero_le _, rfl, rfl, rfl⟩
      case round =>
        obtain ⟨k, n, hk, rfl, rfl, HT⟩ := hrel
        by_cases hlt : k < l1.length
        · have hlt2 : (k : Int) < (l2.length : Int) := by have := HNE.out; omega
          obtain ⟨c1, hc1, HC1⟩ : ∃ c, w.cell? ⟨b1, o1 + k, none⟩ = some (.int .u8 c) ∧ Hid (c = l1.getD k 0) := ⟨_, G1.out k hlt, rfl⟩
          obtain ⟨c2, hc2, HC2⟩ : ∃ c, w.cell? ⟨b2, o2 + k, none⟩ = some (.int .u8 c) ∧ Hid (c = l2.getD k 0) := ⟨_, G2.out k hlt, rfl⟩
          have HK := take_step (l1 := l1) (l2 := l2) (k := k) (by omega) HNE.out HT.out
          by_cases hcc : c1 = c2
          · subst hcc
            go_wp2
            go_quiet (fail)
            go_wp2
            go_roundw
            case rel => exact ⟨k + 1, _, by omega, by go_num, rfl, HK.1 (by rw [← HC1.out, ← HC2.out])⟩
            case measure => simp [intOf]; omega
          · have hcb : (c1 != c2) = true := by simpa using hcc
            have HX : Hid (eqB l1 l2 = false) := by show _ = _; simp only [eqB, decide_eq_false_iff_not]; exact HK.2 (by rw [← HC1.out, ← HC2.out]; exact hcc)
            go_wp2
            go_quiet (fail)
            go_wp2
            go_ret
            rw [HX.out]
            exact ⟨rfl, _, World.drewN_drewN _ _ _⟩
        · go_wp2
          go_ret
          refine ⟨?_, n, rfl⟩
          have : l1 = l2 := by
            have h := HT.out
            rwa [List.take_of_length_le (by omega), List.take_of_length_le (by rw [← HNE.out]; omega)] at h
          simp [eqB, this]
end Go.Proofs.Ytijmmfimkibgbaa

