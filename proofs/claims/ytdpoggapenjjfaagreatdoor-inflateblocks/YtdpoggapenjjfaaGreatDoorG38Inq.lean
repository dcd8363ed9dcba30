import Derived.Test.YtdpoggapenjjfaaGreatDoorG37OpenI
import Derived.Test.YtdpoggapenjjfaaGreatDoorG01Rw1
import Derived.Lib.LaidTab
import Derived.Stop.LaidErr
import Derived.Test.YtdpoggapenjjfaaGreatDoorG28Rx4
import Derived.Test.YtdpoggapenjjfaaGreatDoorG00Rev
import Derived.BigQuiet
import Derived.Deep.QuietTactic
import Derived.Lib.SmallJoins
import Derived.Deep.Slices
import Derived.SizedLaws
import Derived.Test.YtdpoggapenjjfaaGreatDoorG24Pkq
import Derived.Sort.BigQuietIn
import Derived.OrdersHeld
import Derived.BigCall
namespace Go.Proofs.YtdpoggapenjjfaaGreatDoor
open Go.ChangeShapes Go.WideShapes Go.ChangeAt Go.RowKit Go.Joins Go.Deep
set_option maxRecDepth 20000

theorem cArr : Tryz.prog.cellsOf 137 = 19 := by kernel_rfl
theorem cInt : Tryz.prog.cellsOf 3 = 1 := by kernel_rfl
theorem gLeast : Tryz.prog.globalNamed "valise/header.least" = some 3 := by kernel_rfl
theorem tLeast : (Tryz.prog.globals[3]?).map (·.type) = some 137 := by kernel_rfl
theorem gFurther : Tryz.prog.globalNamed "valise/header.further" = some 2 := by kernel_rfl
theorem tFurther : (Tryz.prog.globals[2]?).map (·.type) = some 137 := by kernel_rfl
theorem gOrder : Tryz.prog.globalNamed "valise/header.order" = some 0 := by kernel_rfl
theorem tOrder : (Tryz.prog.globals[0]?).map (·.type) = some 137 := by kernel_rfl

def zlst : List Int := [1, 1, 1, 1, 1, 1, 1, 1, 1, 1, 1, 1, 1, 1, 1, 1, 3, 3, 11]
def zf : List Int := [0, 0, 0, 0, 0, 0, 0, 0, 0, 0, 0, 0, 0, 0, 0, 0, 2, 3, 7]
def zo : List Int := [16, 17, 18, 0, 8, 7, 9, 6, 10, 5, 11, 4, 12, 3, 13, 2, 14, 1, 15]

theorem zl_at : ∀ i : Nat, i < 19 → zlst.getD i 0 = lst i := by decide
theorem zf_at : ∀ i : Nat, i < 19 → zf.getD i 0 = ((frt i : Nat) : Int) := by decide

theorem tab_of {W : World} {rest : List (String × DataW Unit)} (h : laidMet Tryz.prog (("valise/header.least", Lib.tabData .i64 zlst) :: ("valise/header.further", Lib.tabData .i64 zf) :: rest) W) : Tab W := by
  have h1 := Lib.tabIs_of_head gLeast tLeast Tryz.underlying137 Tryz.underlying3 cInt cArr h
  have h2 := Lib.tabIs_of_head gFurther tFurther Tryz.underlying137 Tryz.underlying3 cInt cArr h.tail
  exact ⟨fun i hi => by rw [h1.cell gLeast i (by show i < 19; exact hi), zl_at i hi], fun i hi => by rw [h2.cell gFurther i (by show i < 19; exact hi), zf_at i hi]⟩

theorem ord_of {W : World} {rest : List (String × DataW Unit)} (h : laidMet Tryz.prog (("valise/header.order", Lib.tabData .i64 zo) :: rest) W) : ∀ i : Nat, i < 19 → W.cell? ⟨0, i, none⟩ = some (.int .i64 (zo.getD i 0)) := fun i hi =>
  (Lib.tabIs_of_head gOrder tOrder Tryz.underlying137 Tryz.underlying3 cInt cArr h).cell gOrder i (by show i < 19; exact hi)
end Go.Proofs.YtdpoggapenjjfaaGreatDoor

namespace Go.Proofs.YtdpoggapenjjfaaGreatDoor
open Go.ChangeShapes Go.WideShapes Go.ChangeAt Go.RowKit Go.Joins Go.Deep
set_option maxRecDepth 20000

theorem gXorder : Tryz.prog.globalNamed "valise/valiseref7.order" = some 1 := by kernel_rfl
theorem tXorder : (Tryz.prog.globals[1]?).map (·.type) = some 137 := by kernel_rfl

theorem xord_of {W : World} {rest : List (String × DataW Unit)} (h : laidMet Tryz.prog (("valise/valiseref7.order", Lib.tabData .i64 zo) :: rest) W) : Xodr W := ⟨fun i hi =>
  (Lib.tabIs_of_head gXorder tXorder Tryz.underlying137 Tryz.underlying3 cInt cArr h).cell gXorder i (by show i < 19; exact hi)⟩
end Go.Proofs.YtdpoggapenjjfaaGreatDoor

namespace Go.Proofs.YtdpoggapenjjfaaGreatDoor
open Go.RowKit Go.Maps
set_option maxRecDepth 20000
set_option linter.unusedVariables false

theorem sizeByte8 : (Tryz.prog.info? 5).map (·.size) = some 1 := by kernel_rfl

theorem copied8_any (v : Value) (l : List Int) (w : World) (h : SB w v l) (hr : l.length ≤ 140737488351232) :
    Calls Tryz.prog 4 #[v] w fun e w' => e = .returned (.slice (some ⟨w.heap.size, 0, none⟩) l.length (l.length + 8)) ∧ OB w' w.heap.size (.slice (some ⟨w.heap.size, 0, none⟩) l.length (l.length + 8)) l ∧ Below w.heap.size w w' := by
  obtain ⟨ao, cap, rfl, hlc, hcm, hnil, hcell⟩ := h
  unfold maxLen at hcm
  go_enter Tryz.func4, Tryz.ntmps4
  go_wp2_with (at_make; refine wpList_mk rfl _ _ rfl _ _ _ _ l.length (l.length + 8) rfl rfl rfl (by first | rfl | (simp; done)) (by omega) (by omega) ?_)
  intro w1 hg hb1
  have Hg := hide hg
  clear hg
  have HN : Hid (ao = none → cap = 0) := hnil
  have HC : Hid (∀ x, ao = some x → ∀ i, i < l.length → w.cell? (x.add i) = some (.int .u8 (l.getD i 0))) := hcell
  clear hnil hcell
  obtain ⟨cs, hcs⟩ : ∃ cs, cs = l.map (Value.int .u8) := ⟨_, rfl⟩
  have HS : Hid (cs = l.map (Value.int .u8)) := hcs
  clear hcs
  have C1 : Hid (cs.length = Nat.min l.length l.length) := by show _ = _; rw [HS.out]; simp
  have C2 : Hid (0 < cs.length → (some (⟨w.heap.size, 0, none⟩ : Addr)) = some ⟨w.heap.size, 0, none⟩ ∧ ∃ ad, ao = some ad ∧ ∀ j v, cs[j]? = some v → w1.cell? (ad.add j) = some v) := by
    intro hp
    refine ⟨rfl, ?_⟩
    rw [HS.out, List.length_map] at hp
    cases ao with
    | none => have := HN.out rfl; omega
    | some x =>
      refine ⟨x, rfl, fun j u hj => ?_⟩
      rw [HS.out] at hj
      obtain ⟨hjl, rfl⟩ := List.getElem?_eq_some_iff.1 hj
      have hjl' : j < l.length := by simpa using hjl
      have hc := HC.out x rfl j hjl'
      rw [hb1.cell (by have := World.block_lt_of_cell? _ _ hc; exact this), hc]
      simp [hjl']
  have C3 : Hid (0 + cs.length ≤ (List.replicate (l.length + 8) (Value.int .u8 0)).length) := by show _ ≤ _; rw [HS.out]; simp
  have C4 : Hid (∀ v ∈ cs, v.oneCell' = true) := by rw [HS.out]; intro u hu; obtain ⟨n, _, rfl⟩ := List.mem_map.1 hu; rfl
  go_wp2_with (refine wpList_copy_splice rfl _ _ 22 22 rfl 5 Tryz.underlying22 sizeByte8 _ _ _ _ _ _ rfl rfl w.heap.size 0 (List.replicate (l.length + 8) (Value.int .u8 0)) 5 Hg.out cs C1.out C2.out C3.out C4.out w.heap.size w hb1 (Nat.le_refl _) ?_)
  intro w2 HG2 hb2
  have hfin : OB w2 w.heap.size (.slice (some ⟨w.heap.size, 0, none⟩) l.length (l.length + 8)) l := by
    have hg := HG2.out
    rw [splice_front _ _ _ _ (by rw [HS.out]; simp), HS.out] at hg
    exact ⟨by simp, .inr ⟨w.heap.size, l.length + 8, _, rfl, Nat.le_refl _, hg, by omega, by unfold maxLen; omega, by simp, by simp⟩⟩
  have HF := hfin
  go_wp2
  go_ret
  exact ⟨rfl, HF, hb2⟩
end Go.Proofs.YtdpoggapenjjfaaGreatDoor

namespace Go.Proofs.YtdpoggapenjjfaaGreatDoor
open Go.RowKit Go.Maps
set_option maxRecDepth 20000
set_option linter.unusedVariables false
set_option linter.unusedSimpArgs false

end Go.Proofs.YtdpoggapenjjfaaGreatDoor

namespace Go.Proofs.YtdpoggapenjjfaaGreatDoor
open Go.RowKit Go.Maps
set_option maxRecDepth 20000
set_option linter.unusedVariables false
set_option linter.unusedSimpArgs false

theorem ownsRow_move {w w' : World} {B : Nat} {e : TypeId} {v : Value} {n : Nat} {xs : List Value} (h : w.ownsRow B e 1 v n xs) (hk : ∀ k, v.ownBlock = some k → w'.heap[k]? = w.heap[k]?) : w'.ownsRow B e 1 v n xs := by
  refine ⟨h.1, ?_⟩
  rcases h.2 with h2 | ⟨g, cap, cur, rfl, h1, h2, r⟩
  · exact .inl h2
  · exact .inr ⟨g, cap, cur, rfl, h1, (hk g rfl).trans h2, r⟩

theorem ownsRow_alloc {w : World} {B : Nat} {e : TypeId} {v : Value} {n : Nat} {xs : List Value} (h : w.ownsRow B e 1 v n xs) (o : Obj) : (w.alloc o).ownsRow B e 1 v n xs := by
  refine ⟨h.1, ?_⟩
  rcases h.2 with h2 | ⟨g, cap, cur, rfl, h1, h2, r⟩
  · exact .inl h2
  · exact .inr ⟨g, cap, cur, rfl, h1, (Below.heap_alloc w o g (Array.getElem?_eq_some_iff.1 h2).1).trans h2, r⟩

theorem OB.setAt {w : World} {base b p j : Nat} {l : List Int} (c : Int) (h : OB w base (.slice (some ⟨b, 0, none⟩) l.length p) l) :
    OB (w.setCell ⟨b, j, none⟩ (.int .u8 c)) base (.slice (some ⟨b, 0, none⟩) l.length p) (l.set j c) := by
  rcases h.2 with ⟨hx, _⟩ | ⟨g, cap, cur, he, h1, h2, h3, h4, h5, h6⟩
  · simp at hx
  · simp only [Value.slice.injEq, Option.some.injEq, Addr.mk.injEq] at he
    obtain ⟨⟨rfl, -, -⟩, -, rfl⟩ := he
    refine ⟨by simp, .inr ⟨b, p, cur.setIfInBounds j (.int .u8 c), by simp, h1, heap_setCell_at _ h2, by simpa using h3, h4, by simpa using h5, ?_⟩⟩
    rw [Nat.mul_one, List.length_set, Array.toList_setIfInBounds, List.map_set]
    rw [Nat.mul_one] at h6
    rw [List.take_set, h6]

theorem OB.cellAt {w : World} {base b p j : Nat} {l : List Int} (h : OB w base (.slice (some ⟨b, 0, none⟩) l.length p) l) (hj : j < l.length) : w.cell? ⟨b, j, none⟩ = some (.int .u8 (l.getD j 0)) ∧ w.frozen? ⟨b, j, none⟩ = false := by
  refine ⟨?_, ?_⟩
  · have := World.ownsRow.cells h (g := b) rfl j (.int .u8 (l.getD j 0)) (by simp [hj])
    rw [Addr.add_lit] at this
    simpa using this
  · rcases h.2 with ⟨hx, _⟩ | ⟨g, cap, cur, he, h1, h2, h3, h4, h5, h6⟩
    · simp at hx
    · simp only [Value.slice.injEq, Option.some.injEq, Addr.mk.injEq] at he
      obtain ⟨⟨rfl, -, -⟩, -, rfl⟩ := he
      simp [World.frozen?, h2]

theorem OB.some {w : World} {base : Nat} {v : Value} {l : List Int} (h : OB w base v l) (hl : 0 < l.length) : ∃ b p, v = .slice (.some ⟨b, 0, none⟩) l.length p ∧ l.length ≤ p ∧ p ≤ 9223372036854775807 := by
  rcases h.2 with ⟨rfl, h0⟩ | ⟨g, cap, cur, rfl, h1, h2, h3, h4, h5, h6⟩
  · omega
  · unfold maxLen at h4
    exact ⟨g, cap, rfl, h3, by omega⟩

theorem marked_any (v : Value) (n : Nat) (m : Int) (w : World) (h : SB w v (List.replicate n m)) (hn : n ≤ 100000000000000) :
    Calls Tryz.prog 9 #[v, .int .u8 m] w fun e w' => e = .returned (.bool true) ∧ w' = w := by
  obtain ⟨ao, cap, rfl, h1, h2, h3, h4⟩ := h
  simp only [List.length_replicate] at h1 h4 ⊢
  unfold maxLen at h2
  have H3 := hide h3
  have H4 := hide h4
  clear h3 h4
  go_enter Tryz.func9, Tryz.ntmps9
  go_wp2
  go_loopw [5] (fun i wr => ∃ k : Nat, i = .int .i64 k ∧ k ≤ n ∧ wr = w) (fun i _ => n - (intOf i).toNat)
  case atStart => exact ⟨0, rfl, Nat.zero_le _, rfl⟩
  case round =>
    obtain ⟨k, rfl, hk, hw⟩ := hrel
    subst hw
    by_cases hlt : k < n
    · have hlt' : (k : Int) < (n : Int) := by omega
      cases ao with
      | none => have := H3.out rfl; omega
      | some x =>
        obtain ⟨b, o, rfl⟩ := addr_lit (H4.out x rfl 0 (by omega))
        have hc : wr.cell? ⟨b, o + k, none⟩ = some (.int .u8 m) := by
          have := H4.out _ rfl k hlt
          rw [Addr.add_lit] at this
          simpa [List.getD, hlt] using this
        have hne : (m != m) = false := by simp
        go_wp2
        go_roundw
        case rel => exact ⟨k + 1, by go_num, by omega, trivial⟩
        case measure => simp [intOf]; omega
    · have hlt' : ¬ (k : Int) < (n : Int) := by omega
      go_wp2
      go_ret
      exact ⟨rfl, rfl⟩

structure Keep (ls : List (Value × List Int)) (w w' : World) : Prop where
  os : w'.os = w.os
  tape : w'.tape = w.tape
  output : w'.output = w.output
  size : w.heap.size ≤ w'.heap.size
  block : ∀ k, k < w.heap.size → (∀ p ∈ ls, p.1.ownBlock ≠ some k) → w'.heap[k]? = w.heap[k]?

theorem Keep.refl (ls : List (Value × List Int)) (w : World) : Keep ls w w := ⟨rfl, rfl, rfl, Nat.le_refl _, fun _ _ _ => rfl⟩

theorem Keep.trans {ls : List (Value × List Int)} {a b c : World} (h : Keep ls a b) (k : Keep ls b c) : Keep ls a c :=
  ⟨k.os.trans h.os, k.tape.trans h.tape, k.output.trans h.output, Nat.le_trans h.size k.size, fun i hi hn => (k.block i (Nat.lt_of_lt_of_le hi h.size) hn).trans (h.block i hi hn)⟩

theorem Keep.grown {ls : List (Value × List Int)} {w w' : World} {p : Value × List Int} (hp : p ∈ ls) (h : w.grownBy w' p.1.ownBlock) : Keep ls w w' :=
  ⟨h.os, h.tape, h.output, h.size, fun k hk hn => h.block k hk (fun e => hn p hp e.symm)⟩

structure Lists (w : World) (B : Nat) (ls : List (Value × List Int)) (gR : Nat) : Prop where
  ob : ∀ (j : Nat) (p : Value × List Int), ls[j]? = some p → OB w B p.1 p.2
  sep : ∀ (i j : Nat) (p q : Value × List Int), ls[i]? = some p → ls[j]? = some q → i ≠ j → ∀ k, p.1.ownBlock = some k → q.1.ownBlock ≠ some k
  row : ∀ (j : Nat) (p : Value × List Int), ls[j]? = some p → w.cell? ⟨gR, j, none⟩ = some p.1
  apart : ∀ p ∈ ls, p.1.ownBlock ≠ some gR
  few : ls.length ≤ 500000000
  len : ∀ p ∈ ls, p.2.length ≤ 100000000000000
  base : B ≤ w.heap.size

def mkj (p : Value × List Int) (j : Nat) : List Int := List.replicate p.2.length ((j : Int) % 200)

theorem Lists.cell {w wr : World} {B : Nat} {ls : List (Value × List Int)} {gR : Nat} (h : Lists w B ls gR) (hk : Keep ls w wr) {k : Nat} {p : Value × List Int} (hp : ls[k]? = some p) : wr.cell? ⟨gR, k, none⟩ = some p.1 := by
  have hc := h.row k p hp
  rw [World.cell?_of_block (w := w) (hk.block gR (World.block_lt_of_cell? _ _ hc) h.apart)]
  exact hc

theorem Lists.lt {w : World} {B : Nat} {ls : List (Value × List Int)} {gR : Nat} (h : Lists w B ls gR) {j : Nat} {p : Value × List Int} (hp : ls[j]? = some p) : ∀ k, p.1.ownBlock = some k → k < w.heap.size := fun k hk => ((h.ob j p hp).lt k hk).2

theorem SB.same {w w' : World} {v : Value} {l : List Int} (h : SB w v l) (hk : ∀ k, v.ownBlock = some k → w'.heap[k]? = w.heap[k]?) : SB w' v l :=
  h.move fun a u ha hv => by rw [World.cell?_of_block (w := w) (hk a.block hv)]; exact ha

theorem SB.alloc' {w : World} {v : Value} {l : List Int} (h : SB w v l) (o : Obj) : SB (w.alloc o) v l := h.below ((Below.refl _ _).alloc (Nat.le_refl _) o)

theorem OB.prefix {w w' : World} {B B' n c : Nat} {a : Option Addr} {v' : Value} {l r : List Int} (h : OB w B (.slice a n c) l) (h' : OB w' B' v' (l ++ r)) (he : v'.ownBlock = (Value.slice a n c).ownBlock) : SB w' (.slice a n c) l := by
  obtain ⟨ao, cap, hv, h1, h2, h3, h4⟩ := h.sb
  simp only [Value.slice.injEq] at hv
  obtain ⟨rfl, rfl, rfl⟩ := hv
  refine ⟨a, c, rfl, h1, h2, h3, fun x hx i hi => ?_⟩
  subst hx
  rcases h.2 with ⟨hn, _⟩ | ⟨g, cap, cur, hn, _⟩
  · simp at hn
  · simp only [Value.slice.injEq, Option.some.injEq] at hn
    obtain ⟨rfl, -, -⟩ := hn
    rcases h'.2 with ⟨hn', _⟩ | ⟨g', cap', cur', hn', _⟩
    · rw [hn'] at he
      simp [Value.ownBlock] at he
    · rw [hn'] at he
      simp only [Value.ownBlock, Option.some.injEq] at he
      subst he
      have hc := @World.ownsRow.cells _ _ _ _ _ _ _ h' (g := g') (by rw [hn']; rfl) i (.int .u8 (l.getD i 0)) (by rw [List.map_append, List.getElem?_append_left (by simpa using hi)]; simp [hi, List.getD])
      exact hc

theorem own_step {W5 wr w6 : World} {B c : Nat} {a : Option Addr} {vm v' : Value} {l r : List Int} {O : Obj} (hob : OB W5 B (.slice a l.length c) l) (hsb : SB wr (.slice a l.length c) l)
    (hloc : vm.ownBlock = (Value.slice a l.length c).ownBlock ∨ ∀ b, vm.ownBlock = some b → W5.heap.size ≤ b) (hg : W5.grownBy wr (Value.slice a l.length c).ownBlock) (hob6 : OB w6 B v' (l ++ r)) (hgrew : Grew (wr.alloc O) w6 vm v') :
    SB w6 (.slice a l.length c) l ∧ (v'.ownBlock = (Value.slice a l.length c).ownBlock ∨ ∀ b, v'.ownBlock = some b → W5.heap.size ≤ b) ∧ W5.grownBy w6 (Value.slice a l.length c).ownBlock := by
  have hs1 := hg.size
  have hlt := hob.lt
  rcases hgrew with ⟨hv, hw⟩ | ⟨hb, hbel⟩ | ⟨hb, _, hgr⟩
  · subst hv hw
    exact ⟨hsb.alloc' _, hloc, hg.trans (grownBy_alloc' _ _ _)⟩
  · have hs2 := hbel.size
    rw [size_alloc'] at hs2 hb
    refine ⟨(hsb.alloc' _).below hbel, .inr fun b hb' => ?_, ⟨hbel.os.trans hg.os, hbel.tape.trans hg.tape, hbel.output.trans hg.output, by omega, fun k hk hne => ?_⟩⟩
    · rw [hb] at hb'
      simp at hb'
      omega
    · rw [hbel.block k (by rw [size_alloc']; omega), Below.heap_alloc _ _ k (by omega)]
      exact hg.block k hk hne
  · have hs2 := hgr.size
    rw [size_alloc'] at hs2
    rcases hloc with e | e
    · refine ⟨hob.prefix hob6 (hb.trans e), .inl (hb.trans e), ⟨hgr.os.trans hg.os, hgr.tape.trans hg.tape, hgr.output.trans hg.output, by omega, fun k hk hne => ?_⟩⟩
      rw [hgr.block k (by rw [size_alloc']; omega) (by rw [e]; exact hne), Below.heap_alloc _ _ k (by omega)]
      exact hg.block k hk hne
    · refine ⟨(hsb.alloc' _).same fun k hk => hgr.block k (by rw [size_alloc']; have := (hlt k hk).2; omega) (fun e2 => by have := e k e2.symm; have := (hlt k hk).2; omega), .inr fun b hb' => e b (hb.symm.trans hb'), ⟨hgr.os.trans hg.os, hgr.tape.trans hg.tape, hgr.output.trans hg.output, by omega, fun k hk hne => ?_⟩⟩
      rw [hgr.block k (by rw [size_alloc']; omega) (fun e2 => by have := e k e2.symm; omega), Below.heap_alloc _ _ k (by omega)]
      exact hg.block k hk hne

theorem set_mid (m : Int) (L : List Int) (k : Nat) (h : k < L.length) : (List.replicate k m ++ L.drop k).set k m = List.replicate (k + 1) m ++ L.drop (k + 1) := by
  rw [List.set_append_right _ _ (by simp)]
  have e : L.drop k = L[k] :: L.drop (k + 1) := List.drop_eq_getElem_cons h
  have e2 : (L.drop k).set 0 m = m :: L.drop (k + 1) := by rw [e]; rfl
  simp [List.replicate_succ', e2]

theorem info28 : (Tryz.prog.info? 22).map (fun i => (i.zero, i.size, i.bytes)) = some (some (.slice none 0 0), 1, 24) := by kernel_rfl

def Longer (ls : List (Value × List Int)) (ms : List Value) : Prop := ∀ (j : Nat) (p : Value × List Int), ls[j]? = some p → j < ms.length → ∃ a c, ms[j]? = some (.slice a (p.2.length + 100) c)

set_option maxHeartbeats 4000000 in
theorem apart_walk (w : World) (B gR cR : Nat) (ar : Option Addr) (ls : List (Value × List Int)) (h : Lists w B ls gR) (har : ls ≠ [] → ar = some ⟨gR, 0, none⟩) :
    Calls Tryz.prog 10 #[.slice ar ls.length cR] w fun e w' => e = .returned (.bool true) ∧ Keep ls w w' := by
  have HL := hide h
  have hfew := h.few
  have HAR := hide har
  clear h har
  go_enter Tryz.func10, Tryz.ntmps10
  go_wp2
  go_loopw [3] (fun i wr => ∃ k : Nat, i = .int .i64 k ∧ k ≤ ls.length ∧ Hid (∀ (j : Nat) (p : Value × List Int), ls[j]? = some p → OB wr B p.1 (if j < k then mkj p j else p.2)) ∧ Hid (Keep ls w wr)) (fun i _ => ls.length - (intOf i).toNat)
  case atStart => exact ⟨0, rfl, Nat.zero_le _, (fun j p hp => by rw [if_neg (by omega)]; exact HL.out.ob j p hp), Keep.refl _ _⟩
  case round =>
    obtain ⟨k, rfl, hk, HO, HK⟩ := hrel
    by_cases hlt : k < ls.length
    case pos =>
      have hlt' : (k : Int) < (ls.length : Int) := by omega
      obtain ⟨p, hp⟩ : ∃ p, ls[k]? = some p := ⟨ls[k], by simp [hlt]⟩
      have hob := HO.out k p hp
      rw [if_neg (by omega)] at hob
      have hcell := HL.out.cell HK.out hp
      have hpl := HL.out.len p (List.mem_of_getElem? hp)
      have hap := HL.out.apart p (List.mem_of_getElem? hp)
      have hgl : gR < wr.heap.size := World.block_lt_of_cell? _ _ hcell
      have HP := hide hp
      obtain rfl := HAR.out (fun e => by rw [e] at hlt; exact absurd hlt (Nat.not_lt_zero _))
      obtain ⟨pv, pl⟩ := p
      obtain ⟨a, c, hv⟩ := hob.shape
      simp only [] at hv hob hcell hpl hap
      subst hv
      have HOB := hide hob
      have HAP := hide hap
      have HCE := hide hcell
      obtain ⟨m, HM⟩ : ∃ m : Int, Hid (m = (k : Int) % 200) := ⟨_, rfl⟩
      clear hob hp hap
      obtain ⟨W5, hW5⟩ : ∃ W5, W5 = wr := ⟨_, rfl⟩
      subst hW5
      go_wp2
      go_loopw [4] (fun i wq => ∃ kk : Nat, i = .int .i64 kk ∧ kk ≤ pl.length ∧ Hid (OB wq B (.slice a pl.length c) (List.replicate kk m ++ pl.drop kk)) ∧ Hid (W5.grownBy wq (Value.slice a pl.length c).ownBlock)) (fun i _ => pl.length - (intOf i).toNat)
      case atStart => exact ⟨0, rfl, Nat.zero_le _, by show OB _ _ _ _; simpa using HOB.out, World.grownBy.refl _ _⟩
      case round =>
        obtain ⟨kk, rfl, hkk, HQ, HG⟩ := hrel
        have hrow : wr.cell? ⟨gR, k, none⟩ = some (.slice a pl.length c) := by
          rw [World.cell?_of_block (w := W5) (HG.out.block gR hgl (fun e => HAP.out e.symm))]; exact HCE.out
        by_cases hl2 : kk < pl.length
        · have hl2' : (kk : Int) < (pl.length : Int) := by omega
          have hlen : (List.replicate kk m ++ pl.drop kk).length = pl.length := by simp; omega
          have HQ' : Hid (OB wr B (.slice a (List.replicate kk m ++ pl.drop kk).length c) (List.replicate kk m ++ pl.drop kk)) := by rw [hlen]; exact HQ.out
          obtain ⟨b, c', hv', hc1, hc2⟩ := HQ'.out.some (by rw [hlen]; omega)
          simp only [Value.slice.injEq] at hv'
          obtain ⟨rfl, -, rfl⟩ := hv'
          obtain ⟨d0, df⟩ := HQ'.out.cellAt (j := kk) (by rw [hlen]; omega)
          have hs := HQ'.out.setAt (j := kk) m
          rw [set_mid m pl kk hl2, hlen] at hs
          have HS := hide hs
          have hmw : (k : Int) % 200 = m := HM.out.symm
          have hwu : IntKind.u8.wrap m = m := by rw [IntKind.wrap_u8, HM.out]; omega
          have hm0 : 0 ≤ m := by rw [HM.out]; omega
          have hm1 : m < 200 := by rw [HM.out]; omega
          have HGN : Hid (W5.grownBy (wr.setCell ⟨b, kk, none⟩ (.int .u8 m)) (Value.slice (some ⟨b, 0, none⟩) pl.length c).ownBlock) := HG.out.trans (grownBy_set rfl)
          clear hs hlen HQ HG HQ' hcell
          go_wp2
          go_roundw
          case rel => exact ⟨kk + 1, by go_num, by omega, HS.out, HGN.out⟩
          case measure => simp [intOf]; omega
        · have hl2' : ¬ (kk : Int) < (pl.length : Int) := by omega
          have HO3 : Hid (∀ (j : Nat) (p : Value × List Int), ls[j]? = some p → OB wr B p.1 (if j < k + 1 then mkj p j else p.2)) := by
            intro j q hq
            by_cases ej : j = k
            · subst ej
              have e := HP.out.symm.trans hq
              simp only [Option.some.injEq] at e
              subst e
              rw [if_pos (by omega)]
              have h := HQ.out
              rw [List.drop_eq_nil_of_le (by omega), List.append_nil, show kk = pl.length by omega, HM.out] at h
              exact h
            · have hq2 := HO.out j q hq
              have e : (if j < k + 1 then mkj q j else q.2) = (if j < k then mkj q j else q.2) := by
                by_cases hj : j < k
                · rw [if_pos hj, if_pos (by omega)]
                · rw [if_neg hj, if_neg (by omega)]
              rw [e]
              exact hq2.move fun b hb => HG.out.block b (hq2.lt b hb).2 (fun e2 => HL.out.sep j k q _ hq HP.out ej b hb e2.symm)
          have HK3 := hide (HK.out.trans (Keep.grown (List.mem_of_getElem? HP.out) HG.out))
          clear hcell
          go_wp2
          go_roundw
          case rel => exact ⟨k + 1, by go_num, by omega, HO3.out, HK3.out⟩
          case measure => simp [intOf]; omega
    case neg =>
      have hlt' : ¬ (k : Int) < (ls.length : Int) := by omega
      have HF : Hid (∀ (j : Nat) (p : Value × List Int), ls[j]? = some p → (0 ≤ j → OB wr B p.1 (mkj p j)) ∧ SB wr p.1 (mkj p j)) := by
        intro j p hp
        have h := HO.out j p hp
        rw [if_pos (by have := (List.getElem?_eq_some_iff.1 hp).1; omega)] at h
        exact ⟨fun _ => h, h.sb⟩
      clear HO
      obtain ⟨W0, hW0⟩ : ∃ W0, W0 = wr := ⟨_, rfl⟩
      subst hW0
      obtain ⟨i8, hi8, hz80, hz81, hz82⟩ := info_parts info28
      have HI8 := hide hi8
      have HZ80 := hide hz80
      have HZ81 := hide hz81
      have HZ82 := hide hz82
      have HW0 := hide HK.out.size
      have HOld : Hid (∀ (j : Nat) (p : Value × List Int), ls[j]? = some p → ∀ b, p.1.ownBlock = some b → b < W0.heap.size) := fun j p hp b hb => Nat.lt_of_lt_of_le (HL.out.lt hp b hb) HW0.out
      clear hi8 hz80 hz81 hz82
      go_wp2
      clear hlt hlt' hk
      go_loopw [5, 6] (fun mo i wq => ∃ (k : Nat) (am : Option Addr) (cm : Nat) (ms : List Value), mo = .slice am k cm ∧ i = .int .i64 k ∧ k ≤ ls.length ∧ Hid (∀ (j : Nat) (p : Value × List Int), ls[j]? = some p → (k ≤ j → OB wq B p.1 (mkj p j)) ∧ SB wq p.1 (mkj p j)) ∧ Hid (Keep ls w wq) ∧ Hid (wq.ownsRow W0.heap.size 22 1 (.slice am k cm) k ms ∧ Longer ls ms) ∧ Hid (W0.heap.size ≤ wq.heap.size)) (fun _ i _ => ls.length - (intOf i).toNat)
      case atStart => exact ⟨0, none, 0, [], rfl, rfl, Nat.zero_le _, HF.out, HK.out, ⟨World.ownsRow_nil _ _ _ _, fun j p _ hj => absurd hj (Nat.not_lt_zero _)⟩, Nat.le_refl _⟩
      case round =>
        clear HF HK
        obtain ⟨k, am, cm, ms, rfl, rfl, hk, HF, HK, HMs, HWs⟩ := hrel
        by_cases hlt : k < ls.length
        case pos =>
          have hlt' : (k : Int) < (ls.length : Int) := by omega
          obtain ⟨p, hp⟩ : ∃ p, ls[k]? = some p := ⟨ls[k], by simp [hlt]⟩
          have hob := (HF.out k p hp).1 (Nat.le_refl _)
          have hcell := HL.out.cell HK.out hp
          have hpl := HL.out.len p (List.mem_of_getElem? hp)
          have HP := hide hp
          obtain rfl := HAR.out (fun e => by rw [e] at hlt; exact absurd hlt (Nat.not_lt_zero _))
          obtain ⟨pv, pl⟩ := p
          obtain ⟨l, hl⟩ : ∃ l, l = mkj (pv, pl) k := ⟨_, rfl⟩
          have HLL := hide hl
          have HLe : Hid (l.length = pl.length) := by show _ = _; rw [hl]; simp [mkj]
          have HLN : Hid (l.length ≤ 100000000000000) := by show _ ≤ _; rw [HLe.out]; exact hpl
          rw [← hl] at hob
          obtain ⟨a, c, hv⟩ := hob.shape
          simp only [] at hv hob hcell hpl
          subst hv
          have HOB := hide hob
          have HBS : Hid (B ≤ wr.heap.size + 1) := by show _ ≤ _; have := HL.out.base; have := HK.out.size; omega
          have HL1 : Hid (l.length + [(241 : Int)].length ≤ 140737488355328) := by show _ ≤ _; have := HLN.out; simp; omega
          clear hob hp hl
          obtain ⟨W5, hW5⟩ : ∃ W5, W5 = wr := ⟨_, rfl⟩
          subst hW5
          go_wp2_with (at_builtin; refine wpList_app rfl _ _ 22 rfl B _ _ l [241] rfl (HOB.out.alloc _) rfl (built_src W5 [241]) HL1.out (by rw [size_alloc']; exact HBS.out) ?_)
          intro v6 w6 ho6 hgr6
          have hst := own_step HOB.out HOB.out.sb (.inl rfl) (World.grownBy.refl _ _) ho6 hgr6
          obtain ⟨a6, c6, hv6⟩ := ho6.shape
          rw [show (l ++ [(241 : Int)]).length = l.length + 1 from by simp] at hv6
          subst hv6
          have HO6 : Hid (OB w6 B (.slice a6 (l.length + 1) c6) (l ++ ([241] ++ List.replicate 0 242))) := by show OB _ _ _ _; simpa using ho6
          have HST := hide hst
          clear ho6 hgr6 hst hcell
          go_wp2
          go_loopw [7, 8] (fun mo i wq => ∃ (i' : Nat) (a' : Option Addr) (c' : Nat), mo = .slice a' (l.length + 1 + i') c' ∧ i = .int .i64 i' ∧ i' ≤ 99 ∧ Hid (OB wq B (.slice a' (l.length + 1 + i') c') (l ++ ([241] ++ List.replicate i' 242))) ∧ Hid (SB wq (.slice a l.length c) l) ∧ Hid ((Value.slice a' (l.length + 1 + i') c').ownBlock = (Value.slice a l.length c).ownBlock ∨ ∀ b, (Value.slice a' (l.length + 1 + i') c').ownBlock = some b → W5.heap.size ≤ b) ∧ Hid (W5.grownBy wq (Value.slice a l.length c).ownBlock)) (fun _ i _ => 99 - (intOf i).toNat)
          case atStart => exact ⟨0, a6, c6, rfl, rfl, by omega, HO6.out, HST.out.1, HST.out.2.1, HST.out.2.2⟩
          case round =>
            clear HO6 HST
            obtain ⟨i', am', cm', rfl, rfl, hi', HM, HSB, HLOC, HG⟩ := hrel
            by_cases hlt9 : i' < 99
            · have hlt9' : (i' : Int) < 99 := by omega
              obtain ⟨L2, hL2⟩ : ∃ L2, L2 = l ++ ([(241 : Int)] ++ List.replicate i' 242) := ⟨_, rfl⟩
              have HL2 := hide hL2
              clear hL2
              have HHle : Hid (L2.length = l.length + 1 + i') := by show _ = _; rw [HL2.out]; simp; omega
              have HM' : Hid (OB wr B (.slice am' L2.length cm') L2) := by rw [HHle.out, HL2.out]; exact HM.out
              have HLNN : Hid (L2.length + [(242 : Int)].length ≤ 140737488355328) := by show _ ≤ _; rw [HHle.out]; have := HLN.out; simp; omega
              have HBS2 : Hid (B ≤ wr.heap.size + 1) := by show _ ≤ _; have := HL.out.base; have := HK.out.size; have := HG.out.size; omega
              have HLOC' : Hid ((Value.slice am' L2.length cm').ownBlock = (Value.slice a l.length c).ownBlock ∨ ∀ b, (Value.slice am' L2.length cm').ownBlock = some b → W5.heap.size ≤ b) := by rw [HHle.out]; exact HLOC.out
              rw [← HHle.out]
              clear HM HLOC
              go_wp2_with (at_builtin; refine wpList_app rfl _ _ 22 rfl B _ _ L2 [242] rfl (HM'.out.alloc _) rfl (built_src wr [242]) HLNN.out (by rw [size_alloc']; exact HBS2.out) ?_)
              intro v' w7 hown hgrew
              have hob7 : OB w7 B v' (l ++ ([241] ++ List.replicate (i' + 1) 242)) := by
                have e : l ++ ([(241 : Int)] ++ List.replicate (i' + 1) 242) = L2 ++ [242] := by rw [HL2.out, List.replicate_succ']; simp
                rw [e]
                exact hown
              have hst7 := own_step HOB.out HSB.out HLOC'.out HG.out hob7 hgrew
              obtain ⟨a7, c7, hv7⟩ := hob7.shape
              have e7 : (l ++ ([(241 : Int)] ++ List.replicate (i' + 1) 242)).length = l.length + 1 + (i' + 1) := by simp; omega
              rw [e7] at hv7
              have HST := hide hst7
              have HO7 := hide hob7
              clear hown hgrew hob7 e7 hst7
              rw [hv7] at HST HO7 ⊢
              clear hv7
              go_wp2
              go_roundw
              case rel => exact ⟨i' + 1, a7, c7, rfl, by go_num, by omega, HO7.out, HST.out.1, HST.out.2.1, HST.out.2.2⟩
              case measure => simp [intOf]; omega
            · have hlt9' : ¬ (i' : Int) < 99 := by omega
              obtain rfl : i' = 99 := by omega
              have HRow : Hid (wr.ownsRow W0.heap.size 22 1 (.slice am k cm) k ms) := ownsRow_move HMs.out.1 fun b hb => HG.out.block b (World.ownsRow.lt HMs.out.1 b hb).2 (fun e2 => by
                have h1 := (World.ownsRow.lt HMs.out.1 b hb).1
                have h2 := HOld.out k _ HP.out b e2.symm
                omega)
              have HN1 : Hid (k + 1 ≤ maxLen) := by show _ ≤ _; unfold maxLen; omega
              have HN2 : Hid ((k + 1) * 24 ≤ 140737488355328) := by show _ ≤ _; omega
              have HN3 : Hid (W0.heap.size ≤ wr.heap.size + 1) := by show _ ≤ _; have := HWs.out; have := HG.out.size; omega
              go_wp2_with (at_builtin; go_must (refine wpList_append_own_at _ rfl _ _ 34 rfl W0.heap.size 22 i8 (.slice none 0 0) 1 24 Tryz.underlying34 HI8.out HZ80.out HZ81.out HZ82.out rfl (by decide) _ _ _ rfl (ownsRow_alloc HRow.out _) ⟨wr.heap.size, 0, none⟩ 1 1 [.slice am' (l.length + 1 + 99) cm'] rfl rfl (cell_one_new _ _ _) (fun u hu => by rw [List.mem_singleton.1 hu]; rfl) HN1.out HN2.out (by rw [size_alloc']; exact HN3.out) ?_))
              intro v8 w8 hown8 hgrow8 _ hloc8
              have hks : W0.heap.size ≤ wr.heap.size := by have := HWs.out; have := HG.out.size; omega
              have HKp : Hid (∀ b, b < W0.heap.size → w8.heap[b]? = wr.heap[b]?) := fun b hb => (hgrow8.block b (by rw [size_alloc']; omega) (fun e2 => by have := (World.ownsRow.lt HRow.out b e2.symm).1; omega)).trans (Below.heap_alloc _ _ b (by omega))
              have HF8 : Hid (∀ (j : Nat) (p : Value × List Int), ls[j]? = some p → (k + 1 ≤ j → OB w8 B p.1 (mkj p j)) ∧ SB w8 p.1 (mkj p j)) := by
                intro j q hq
                by_cases ej : j = k
                · subst ej
                  have e := HP.out.symm.trans hq
                  simp only [Option.some.injEq] at e
                  subst e
                  rw [← HLL.out]
                  exact ⟨fun h => by omega, HSB.out.same fun b hb => HKp.out b (HOld.out _ _ HP.out b hb)⟩
                · have hq2 := HF.out j q hq
                  have hkeep : ∀ b, q.1.ownBlock = some b → w8.heap[b]? = W5.heap[b]? := fun b hb => (HKp.out b (HOld.out j q hq b hb)).trans (HG.out.block b (Nat.lt_of_lt_of_le (HOld.out j q hq b hb) HWs.out) (fun e2 => HL.out.sep j k q _ hq HP.out ej b hb e2.symm))
                  exact ⟨fun h => (hq2.1 (by omega)).move hkeep, hq2.2.same hkeep⟩
              have HK8 : Hid (Keep ls w w8) := by
                have h1 := HK.out.trans (Keep.grown (List.mem_of_getElem? HP.out) HG.out)
                exact ⟨hgrow8.os.trans h1.os, hgrow8.tape.trans h1.tape, hgrow8.output.trans h1.output, by have := hgrow8.size; rw [size_alloc'] at this; have := h1.size; omega, fun b hb hn => (HKp.out b (Nat.lt_of_lt_of_le hb HW0.out)).trans (h1.block b hb hn)⟩
              have HMl : Hid (ms.length = k) := by have h := HRow.out.1; show _ = _; omega
              have HM8 : Hid (w8.ownsRow W0.heap.size 22 1 v8 (k + 1) (ms ++ [Value.slice am' (l.length + 1 + 99) cm']) ∧ Longer ls (ms ++ [Value.slice am' (l.length + 1 + 99) cm'])) := by
                refine ⟨hown8, fun j q hq hj => ?_⟩
                by_cases ej : j < ms.length
                · obtain ⟨x, y, hxy⟩ := HMs.out.2 j q hq ej
                  exact ⟨x, y, by rw [List.getElem?_append_left ej]; exact hxy⟩
                · rw [List.length_append, List.length_singleton] at hj
                  have ek : j = k := by have := HMl.out; omega
                  subst ek
                  have e := HP.out.symm.trans hq
                  simp only [Option.some.injEq] at e
                  subst e
                  refine ⟨am', cm', ?_⟩
                  rw [List.getElem?_append_right (by omega)]
                  have e0 : j - ms.length = 0 := by omega
                  rw [e0]
                  have el := HLe.out
                  simp only [List.getElem?_cons_zero]
                  rw [show l.length + 1 + 99 = pl.length + 100 by omega]
              have HW8 : Hid (W0.heap.size ≤ w8.heap.size) := by show _ ≤ _; have := hgrow8.size; rw [size_alloc'] at this; omega
              have hsh : ∃ a8 c8, v8 = .slice a8 (k + 1) c8 := by
                rcases hown8.2 with ⟨_, h0⟩ | ⟨g8, c8, cur, hv, _⟩
                · omega
                · exact ⟨_, _, hv⟩
              obtain ⟨a8, c8, rfl⟩ := hsh
              clear hown8 hgrow8 hloc8
              go_wp2
              go_roundw
              case rel => exact ⟨k + 1, a8, c8, _, rfl, by go_num, by omega, HF8.out, HK8.out, HM8.out, HW8.out⟩
              case measure => simp [intOf]; omega
        case neg =>
          have hlt' : ¬ (k : Int) < (ls.length : Int) := by omega
          obtain rfl : k = ls.length := by omega
          have HF2 : Hid (∀ (j : Nat) (p : Value × List Int), ls[j]? = some p → SB wr p.1 (mkj p j)) := fun j p hp => (HF.out j p hp).2
          clear HF
          obtain ⟨Wf, hWf⟩ : ∃ Wf, Wf = wr := ⟨_, rfl⟩
          subst hWf
          have hcm : cm ≤ 9223372036854775807 := by
            rcases HMs.out.1.2 with ⟨hx, _⟩ | ⟨g8, c8, cur, hv, _, _, _, h4, _⟩
            · simp only [Value.slice.injEq] at hx; omega
            · simp only [Value.slice.injEq] at hv; unfold maxLen at h4; omega
          go_wp2
          go_loopw [9] (fun i wq => ∃ k n : Nat, i = .int .i64 k ∧ k ≤ ls.length ∧ wq = Wf.drewN n) (fun i _ => ls.length - (intOf i).toNat)
          case atStart => exact ⟨0, 0, rfl, Nat.zero_le _, rfl⟩
          case round =>
            obtain ⟨k, n, rfl, hk, hw⟩ := hrel
            subst hw
            by_cases hlt : k < ls.length
            · have hlt' : (k : Int) < (ls.length : Int) := by omega
              obtain ⟨p, hp⟩ : ∃ p, ls[k]? = some p := ⟨ls[k], by simp [hlt]⟩
              have hsb := HF2.out k p hp
              have hcell := HL.out.cell HK.out hp
              have hpl := HL.out.len p (List.mem_of_getElem? hp)
              obtain rfl := HAR.out (fun e => by rw [e] at hlt; exact absurd hlt (Nat.not_lt_zero _))
              obtain ⟨xm, ym, hxm⟩ := HMs.out.2 k p hp (by have h := HMs.out.1.1; omega)
              obtain ⟨gm, hgm, hmc⟩ : ∃ gm, am = some ⟨gm, 0, none⟩ ∧ Wf.cell? ⟨gm, k, none⟩ = some (.slice xm (p.2.length + 100) ym) := by
                rcases HMs.out.1.2 with ⟨_, h0⟩ | ⟨g8, c8, cur, hv, _⟩
                · omega
                · have hc := World.ownsRow.cells HMs.out.1 (g := g8) (by rw [hv]; rfl) k _ hxm
                  rw [Addr.add_lit] at hc
                  simp only [Value.slice.injEq] at hv
                  exact ⟨g8, hv.1, by simpa using hc⟩
              subst hgm
              obtain ⟨a, c, hv⟩ := (HL.out.ob k p hp).shape
              obtain ⟨pv, pl⟩ := p
              simp only [] at hv hsb hcell hpl hmc
              subst hv
              have HSB := hide hsb
              obtain ⟨m, HM⟩ : ∃ m : Int, Hid (m = (k : Int) % 200) := ⟨_, rfl⟩
              have hmw : (k : Int) % 200 = m := HM.out.symm
              have hwu : IntKind.u8.wrap m = m := by rw [IntKind.wrap_u8, HM.out]; omega
              have HMk : Hid (∀ W : World, W.heap = Wf.heap → SB W (.slice a pl.length c) (List.replicate pl.length m)) := fun W hW => by
                rw [HM.out]
                exact HSB.out.same fun b _ => by rw [hW]
              have HCall : Hid (∀ x : Nat, Calls Tryz.prog 9 #[.slice a pl.length c, .int .u8 m] (Wf.drewN (n + x)) fun e w'' => e = .returned (.bool true) ∧ ∃ n1, w'' = Wf.drewN (n + n1)) := fun x => (marked_any _ pl.length m (Wf.drewN (n + x)) (HMk.out (Wf.drewN (n + x)) rfl) hpl).mono fun _ _ h => ⟨h.1, x, h.2⟩
              clear hp hsb hxm HMk HSB
              go_wp2
              go_quiet (first | (go_at_call 9; exact HCall.out _))
              go_wp2
              go_roundw
              case rel => exact ⟨k + 1, _, by go_num, by omega, rfl⟩
              case measure => simp [intOf]; omega
            · have hlt' : ¬ (k : Int) < (ls.length : Int) := by omega
              go_wp2
              go_ret
              refine ⟨rfl, ?_⟩
              have h := HK.out
              exact ⟨h.os, h.tape, h.output, h.size, h.block⟩

end Go.Proofs.YtdpoggapenjjfaaGreatDoor

namespace Go.Proofs.YtdpoggapenjjfaaGreatDoor
open Go.RowKit Go.Maps
set_option maxRecDepth 20000
set_option linter.unusedVariables false
set_option linter.unusedSimpArgs false

theorem same8 {w : World} {v1 v2 : Value} {l : List Int} (h1 : SB w v1 l) (h2 : SB w v2 l) : Calls Tryz.prog 8 #[v1, v2] w fun e w' => e = .returned (.bool true) ∧ ∃ n, w' = w.drewN n := by
  refine (same_any v1 v2 l l w h1 h2).mono ?_
  rintro e w1 ⟨rfl, hn⟩
  exact ⟨by simp [eqB], hn⟩
end Go.Proofs.YtdpoggapenjjfaaGreatDoor

namespace Go.Proofs.YtdpoggapenjjfaaGreatDoor
open Go.RowKit
set_option linter.unusedVariables false

theorem oper_inRound {F : Fence} {n : Nat} {P : Program} {o : Oper} {a : Act} {w : World} {K : Act → World → Prop} {Q : Exit → Act → World → Prop} (l : Nat) (hnd : ∀ c, o.op ≠ Op.defer c)
    (h : o.wpIn F n P a w K Q) : o.wpIn (F.inRound l) n P a w K Q := by
  unfold Oper.wpIn at *
  refine ⟨h.1, ?_⟩
  have h2 := h.2
  rw [Oper.semAt_plain _ _ _ hnd] at h2 ⊢
  exact h2

theorem wpAnyIn_inRound {F : Fence} {n : Nat} {P : Program} {md : Region.Mode} {ops : Array Oper} {Q : Exit → Act → World → Prop} (l : Nat) (hnd : ∀ (i : Nat) (o : Oper), ops[i]? = some o → ∀ c, o.op ≠ Op.defer c) :
    ∀ (fuel : Nat) (listed : Array Bool) (a : Act) (w : World), wpAnyIn F n P md ops Q fuel listed a w → wpAnyIn (F.inRound l) n P md ops Q fuel listed a w
  | 0, _, _, _, h => h
  | fuel + 1, listed, a, w, h => by
    refine ⟨h.1, fun i hi => ?_⟩
    have h2 := wpOpIn_mono (K' := wpAnyIn (F.inRound l) n P md ops Q fuel (listed.setIfInBounds i true)) (fun a' w' h' => wpAnyIn_inRound l hnd fuel _ a' w' h') (h.2 i hi)
    unfold wpOpIn at h2 ⊢
    cases ho : ops[i]? with
    | none => simp only [ho] at h2 ⊢; exact h2
    | some o =>
      simp only [ho] at h2 ⊢
      split
      · rename_i hw
        simp only [hw, if_true] at h2
        exact oper_inRound l (hnd i o ho) h2
      · rename_i hw
        simp only [hw] at h2
        exact h2

def plainOps (l : List Oper) : Bool := l.all fun o => match o.op with | .defer _ => false | _ => true

theorem plainOps_spec {l : List Oper} (h : plainOps l = true) : ∀ (i : Nat) (o : Oper), l.toArray[i]? = some o → ∀ c, o.op ≠ Op.defer c := by
  intro i o hi c e
  have hm : o ∈ l := by
    have : l[i]? = some o := by simpa using hi
    exact List.mem_of_getElem? this
  have := List.all_eq_true.1 h o hm
  rw [e] at this
  cases this

theorem wpIn_quiet_round {F : Fence} {n : Nat} {P : Program} {id : Nat} {Q : Exit → Act → World → Prop} {a : Act} {w : World} {l : List Oper} (l0 : Nat) (hro : F.round = none) (hm : P.follows .mixedOrders = true) (hB : Region.lexB .any l.toArray = true) (hnd : plainOps l = true)
    (h : wpQuietIn F n P l.toArray (fun w' => ∃ n, w' = w.drewN n) (fun a' => ∀ w', (∃ n, w' = w.drewN n) → Q .normal a' w') l a) : (Code.region id l.toArray true).wpIn (F.inRound l0) n P Q a w := by
  simp only [Region.lexB, Bool.and_eq_true] at hB
  refine wpIn_region_any hm (wpAnyIn_inRound l0 (plainOps_spec hnd) _ _ _ _ (wpAnyIn_of_quiet (Q := fun a' => ∀ w', (∃ n, w' = w.drewN n) → Q .normal a' w') (C := fun w' => ∃ n, w' = w.drewN n) hro (fun _ w' hw' h => h w' hw') _ _ _ _ ⟨1, rfl⟩ ?_))
  have := wpAnyQIn_lex (F := F) (n := n) (C := fun w' => ∃ n, w' = w.drewN n) (md := .any) hB.1 l 0 (Array.replicate l.toArray.size false) a (by simp) (by simpa using hB.2) h
  simpa using this

def noPan (Q : Exit → Act → World → Prop) : Exit → Act → World → Prop
  | .panic _, _, _ => False
  | e, a, w => Q e a w

theorem wpIn_noPan {F : Fence} {n : Nat} {P : Program} {c : Code} {Q : Exit → Act → World → Prop} {a : Act} {w : World} (h : c.wpIn F n P (noPan Q) a w) : c.wpIn F n P Q a w := by
  refine wpIn_mono h ?_
  intro e a w hq
  cases e with
  | panic _ => exact hq.elim
  | normal => exact hq
  | ret => exact hq
  | exit _ => exact hq
  | goto _ => exact hq
  | outgrown => exact hq

theorem mixd : Tryz.prog.follows Departure.mixedOrders = true := by kernel_rfl

end Go.Proofs.YtdpoggapenjjfaaGreatDoor

