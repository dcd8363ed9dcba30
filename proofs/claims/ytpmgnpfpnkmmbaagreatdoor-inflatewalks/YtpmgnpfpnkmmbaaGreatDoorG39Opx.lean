import Derived.Test.YtpmgnpfpnkmmbaaGreatDoorG38Frm
import Derived.BigQuiet
import Derived.Deep.QuietTactic
import Derived.Lib.SmallJoins
import Derived.Deep.Slices
import Derived.SizedLaws
import Derived.Test.YtpmgnpfpnkmmbaaGreatDoorG00Ints
import Derived.Test.YtpmgnpfpnkmmbaaGreatDoorG01Rnw
import Derived.Lib.LaidTab
import Derived.Stop.LaidErr
import Derived.Test.YtpmgnpfpnkmmbaaGreatDoorG31Mx2
namespace Go.Proofs.YtpmgnpfpnkmmbaaGreatDoor
open Go.RowKit Go.Maps
set_option maxRecDepth 20000
set_option linter.unusedVariables false
set_option linter.unusedSimpArgs false

theorem ownsRow_move {w w' : World} {B : Nat} {e : TypeId} {v : Value} {n : Nat} {xs : List Value} (h : w.ownsRow B e 1 v n xs) (hk : ∀ k, v.ownBlock = some k → w'.heap[k]? = w.heap[k]?) : w'.ownsRow B e 1 v n xs := by
  refine ⟨h.1, ?_⟩
  rcases h.2 with h2 | ⟨g, cap, cur, rfl, h1, h2, r⟩
  · exact .inl h2
  · exact .inr ⟨g, cap, cur, rfl, h1, (hk g rfl).trans h2, r⟩

theorem ownsRow_alloc {w : World} {B : Nat} {e : TypeId} {v : Value} {n : Nat} {xs : List Value} (h : w.ownsRow B e 1 v n xs) (o : Obj) : (w.alloc o).ownsRow B e 1 v n xs := by
  refine ⟨h.1, ?_⟩
  rcases h.2 with h2 | ⟨g, cap, cur, rfl, h1, h2, r⟩
  · exact .inl h2
  · exact .inr ⟨g, cap, cur, rfl, h1, (Below.heap_alloc w o g (Array.getElem?_eq_some_iff.1 h2).1).trans h2, r⟩

theorem OB.setAt {w : World} {base b p j : Nat} {l : List Int} (c : Int) (h : OB w base (.slice (some ⟨b, 0, none⟩) l.length p) l) :
    OB (w.setCell ⟨b, j, none⟩ (.int .u8 c)) base (.slice (some ⟨b, 0, none⟩) l.length p) (l.set j c) := by
  rcases h.2 with ⟨hx, _⟩ | ⟨g, cap, cur, he, h1, h2, h3, h4, h5, h6⟩
  · simp at hx
  · simp only [Value.slice.injEq, Option.some.injEq, Addr.mk.injEq] at he
    obtain ⟨⟨rfl, -, -⟩, -, rfl⟩ := he
    refine ⟨by simp, .inr ⟨b, p, cur.setIfInBounds j (.int .u8 c), by simp, h1, heap_setCell_at _ h2, by simpa using h3, h4, by simpa using h5, ?_⟩⟩
    rw [Nat.mul_one, List.length_set, Array.toList_setIfInBounds, List.map_set]
    rw [Nat.mul_one] at h6
    rw [List.take_set, h6]

theorem OB.cellAt {w : World} {base b p j : Nat} {l : List Int} (h : OB w base (.slice (some ⟨b, 0, none⟩) l.length p) l) (hj : j < l.length) : w.cell? ⟨b, j, none⟩ = some (.int .u8 (l.getD j 0)) ∧ w.frozen? ⟨b, j, none⟩ = false := by
  refine ⟨?_, ?_⟩
  · have := World.ownsRow.cells h (g := b) rfl j (.int .u8 (l.getD j 0)) (by simp [hj])
    rw [Addr.add_lit] at this
    simpa using this
  · rcases h.2 with ⟨hx, _⟩ | ⟨g, cap, cur, he, h1, h2, h3, h4, h5, h6⟩
    · simp at hx
    · simp only [Value.slice.injEq, Option.some.injEq, Addr.mk.injEq] at he
      obtain ⟨⟨rfl, -, -⟩, -, rfl⟩ := he
      simp [World.frozen?, h2]

theorem OB.some {w : World} {base : Nat} {v : Value} {l : List Int} (h : OB w base v l) (hl : 0 < l.length) : ∃ b p, v = .slice (.some ⟨b, 0, none⟩) l.length p ∧ l.length ≤ p ∧ p ≤ 9223372036854775807 := by
  rcases h.2 with ⟨rfl, h0⟩ | ⟨g, cap, cur, rfl, h1, h2, h3, h4, h5, h6⟩
  · omega
  · unfold maxLen at h4
    exact ⟨g, cap, rfl, h3, by omega⟩

theorem marked_any (v : Value) (n : Nat) (m : Int) (w : World) (h : SB w v (List.replicate n m)) (hn : n ≤ 100000000000000) :
    Calls Tryz.prog 28 #[v, .int .u8 m] w fun e w' => e = .returned (.bool true) ∧ w' = w := by
  obtain ⟨ao, cap, rfl, h1, h2, h3, h4⟩ := h
  simp only [List.length_replicate] at h1 h4 ⊢
  unfold maxLen at h2
  have H3 := hide h3
  have H4 := hide h4
  clear h3 h4
  go_enter Tryz.func28, Tryz.ntmps28
  go_wp2
  go_loopw [5] (fun i wr => ∃ k : Nat, i = .int .i64 k ∧ k ≤ n ∧ wr = w) (fun i _ => n - (intOf i).toNat)
  case atStart => exact ⟨0, rfl, Nat.zero_le _, rfl⟩
  case round =>
    obtain ⟨k, rfl, hk, hw⟩ := hrel
    subst hw
    by_cases hlt : k < n
    · have hlt' : (k : Int) < (n : Int) := by omega
      cases ao with
      | none => have := H3.out rfl; omega
      | some x =>
        obtain ⟨b, o, rfl⟩ := addr_lit (H4.out x rfl 0 (by omega))
        have hc : wr.cell? ⟨b, o + k, none⟩ = some (.int .u8 m) := by
          have := H4.out _ rfl k hlt
          rw [Addr.add_lit] at this
          simpa [List.getD, hlt] using this
        have hne : (m != m) = false := by simp
        go_wp2
        go_roundw
        case rel => exact ⟨k + 1, by go_num, by omega, trivial⟩
        case measure => simp [intOf]; omega
    · have hlt' : ¬ (k : Int) < (n : Int) := by omega
      go_wp2
      go_ret
      exact ⟨rfl, rfl⟩

structure Keep (ls : List (Value × List Int)) (w w' : World) : Prop where
  os : w'.os = w.os
  tape : w'.tape = w.tape
  output : w'.output = w.output
  size : w.heap.size ≤ w'.heap.size
  block : ∀ k, k < w.heap.size → (∀ p ∈ ls, p.1.ownBlock ≠ some k) → w'.heap[k]? = w.heap[k]?

theorem Keep.refl (ls : List (Value × List Int)) (w : World) : Keep ls w w := ⟨rfl, rfl, rfl, Nat.le_refl _, fun _ _ _ => rfl⟩

theorem Keep.trans {ls : List (Value × List Int)} {a b c : World} (h : Keep ls a b) (k : Keep ls b c) : Keep ls a c :=
  ⟨k.os.trans h.os, k.tape.trans h.tape, k.output.trans h.output, Nat.le_trans h.size k.size, fun i hi hn => (k.block i (Nat.lt_of_lt_of_le hi h.size) hn).trans (h.block i hi hn)⟩

theorem Keep.grown {ls : List (Value × List Int)} {w w' : World} {p : Value × List Int} (hp : p ∈ ls) (h : w.grownBy w' p.1.ownBlock) : Keep ls w w' :=
  ⟨h.os, h.tape, h.output, h.size, fun k hk hn => h.block k hk (fun e => hn p hp e.symm)⟩


/-- The lists that were kept, and the row that holds them. -/
structure Lists (w : World) (B : Nat) (ls : List (Value × List Int)) (gR : Nat) : Prop where
  ob : ∀ (j : Nat) (p : Value × List Int), ls[j]? = some p → OB w B p.1 p.2
  sep : ∀ (i j : Nat) (p q : Value × List Int), ls[i]? = some p → ls[j]? = some q → i ≠ j → ∀ k, p.1.ownBlock = some k → q.1.ownBlock ≠ some k
  row : ∀ (j : Nat) (p : Value × List Int), ls[j]? = some p → w.cell? ⟨gR, j, none⟩ = some p.1
  apart : ∀ p ∈ ls, p.1.ownBlock ≠ some gR
  few : ls.length ≤ 1048576
  len : ∀ p ∈ ls, p.2.length ≤ 100000000000000
  base : B ≤ w.heap.size

def mkj (p : Value × List Int) (j : Nat) : List Int := List.replicate p.2.length ((j : Int) % 200)

theorem Lists.cell {w wr : World} {B : Nat} {ls : List (Value × List Int)} {gR : Nat} (h : Lists w B ls gR) (hk : Keep ls w wr) {k : Nat} {p : Value × List Int} (hp : ls[k]? = some p) : wr.cell? ⟨gR, k, none⟩ = some p.1 := by
  have hc := h.row k p hp
  rw [World.cell?_of_block (w := w) (hk.block gR (World.block_lt_of_cell? _ _ hc) h.apart)]
  exact hc

theorem Lists.lt {w : World} {B : Nat} {ls : List (Value × List Int)} {gR : Nat} (h : Lists w B ls gR) {j : Nat} {p : Value × List Int} (hp : ls[j]? = some p) : ∀ k, p.1.ownBlock = some k → k < w.heap.size := fun k hk => ((h.ob j p hp).lt k hk).2

theorem SB.same {w w' : World} {v : Value} {l : List Int} (h : SB w v l) (hk : ∀ k, v.ownBlock = some k → w'.heap[k]? = w.heap[k]?) : SB w' v l :=
  h.move fun a u ha hv => by rw [World.cell?_of_block (w := w) (hk a.block hv)]; exact ha

theorem SB.alloc' {w : World} {v : Value} {l : List Int} (h : SB w v l) (o : Obj) : SB (w.alloc o) v l := h.below ((Below.refl _ _).alloc (Nat.le_refl _) o)

theorem OB.prefix {w w' : World} {B B' n c : Nat} {a : Option Addr} {v' : Value} {l r : List Int} (h : OB w B (.slice a n c) l) (h' : OB w' B' v' (l ++ r)) (he : v'.ownBlock = (Value.slice a n c).ownBlock) : SB w' (.slice a n c) l := by
  obtain ⟨ao, cap, hv, h1, h2, h3, h4⟩ := h.sb
  simp only [Value.slice.injEq] at hv
  obtain ⟨rfl, rfl, rfl⟩ := hv
  refine ⟨a, c, rfl, h1, h2, h3, fun x hx i hi => ?_⟩
  subst hx
  rcases h.2 with ⟨hn, _⟩ | ⟨g, cap, cur, hn, _⟩
  · simp at hn
  · simp only [Value.slice.injEq, Option.some.injEq] at hn
    obtain ⟨rfl, -, -⟩ := hn
    rcases h'.2 with ⟨hn', _⟩ | ⟨g', cap', cur', hn', _⟩
    · rw [hn'] at he
      simp [Value.ownBlock] at he
    · rw [hn'] at he
      simp only [Value.ownBlock, Option.some.injEq] at he
      subst he
      have hc := @World.ownsRow.cells _ _ _ _ _ _ _ h' (g := g') (by rw [hn']; rfl) i (.int .u8 (l.getD i 0)) (by rw [List.map_append, List.getElem?_append_left (by simpa using hi)]; simp [hi, List.getD])
      exact hc

theorem own_step {W5 wr w6 : World} {B c : Nat} {a : Option Addr} {vm v' : Value} {l r : List Int} {O : Obj} (hob : OB W5 B (.slice a l.length c) l) (hsb : SB wr (.slice a l.length c) l)
    (hloc : vm.ownBlock = (Value.slice a l.length c).ownBlock ∨ ∀ b, vm.ownBlock = some b → W5.heap.size ≤ b) (hg : W5.grownBy wr (Value.slice a l.length c).ownBlock) (hob6 : OB w6 B v' (l ++ r)) (hgrew : Grew (wr.alloc O) w6 vm v') :
    SB w6 (.slice a l.length c) l ∧ (v'.ownBlock = (Value.slice a l.length c).ownBlock ∨ ∀ b, v'.ownBlock = some b → W5.heap.size ≤ b) ∧ W5.grownBy w6 (Value.slice a l.length c).ownBlock := by
  have hs1 := hg.size
  have hlt := hob.lt
  rcases hgrew with ⟨hv, hw⟩ | ⟨hb, hbel⟩ | ⟨hb, _, hgr⟩
  · subst hv hw
    exact ⟨hsb.alloc' _, hloc, hg.trans (grownBy_alloc' _ _ _)⟩
  · have hs2 := hbel.size
    rw [size_alloc'] at hs2 hb
    refine ⟨(hsb.alloc' _).below hbel, .inr fun b hb' => ?_, ⟨hbel.os.trans hg.os, hbel.tape.trans hg.tape, hbel.output.trans hg.output, by omega, fun k hk hne => ?_⟩⟩
    · rw [hb] at hb'
      simp at hb'
      omega
    · rw [hbel.block k (by rw [size_alloc']; omega), Below.heap_alloc _ _ k (by omega)]
      exact hg.block k hk hne
  · have hs2 := hgr.size
    rw [size_alloc'] at hs2
    rcases hloc with e | e
    · refine ⟨hob.prefix hob6 (hb.trans e), .inl (hb.trans e), ⟨hgr.os.trans hg.os, hgr.tape.trans hg.tape, hgr.output.trans hg.output, by omega, fun k hk hne => ?_⟩⟩
      rw [hgr.block k (by rw [size_alloc']; omega) (by rw [e]; exact hne), Below.heap_alloc _ _ k (by omega)]
      exact hg.block k hk hne
    · refine ⟨(hsb.alloc' _).same fun k hk => hgr.block k (by rw [size_alloc']; have := (hlt k hk).2; omega) (fun e2 => by have := e k e2.symm; have := (hlt k hk).2; omega), .inr fun b hb' => e b (hb.symm.trans hb'), ⟨hgr.os.trans hg.os, hgr.tape.trans hg.tape, hgr.output.trans hg.output, by omega, fun k hk hne => ?_⟩⟩
      rw [hgr.block k (by rw [size_alloc']; omega) (fun e2 => by have := e k e2.symm; omega), Below.heap_alloc _ _ k (by omega)]
      exact hg.block k hk hne

theorem set_mid (m : Int) (L : List Int) (k : Nat) (h : k < L.length) : (List.replicate k m ++ L.drop k).set k m = List.replicate (k + 1) m ++ L.drop (k + 1) := by
  rw [List.set_append_right _ _ (by simp)]
  have e : L.drop k = L[k] :: L.drop (k + 1) := List.drop_eq_getElem_cons h
  have e2 : (L.drop k).set 0 m = m :: L.drop (k + 1) := by rw [e]; rfl
  simp [List.replicate_succ', e2]

theorem info28 : (Tryz.prog.info? 22).map (fun i => (i.zero, i.size, i.bytes)) = some (some (.slice none 0 0), 1, 24) := by kernel_rfl

/-- What 'more' holds: for each list one that is 100 longer. -/
def Longer (ls : List (Value × List Int)) (ms : List Value) : Prop := ∀ (j : Nat) (p : Value × List Int), ls[j]? = some p → j < ms.length → ∃ a c, ms[j]? = some (.slice a (p.2.length + 100) c)

set_option maxHeartbeats 4000000 in
theorem apart_walk (w : World) (B gR cR : Nat) (ar : Option Addr) (ls : List (Value × List Int)) (h : Lists w B ls gR) (har : ls ≠ [] → ar = some ⟨gR, 0, none⟩) :
    Calls Tryz.prog 18 #[.slice ar ls.length cR] w fun e w' => e = .returned (.bool true) ∧ Keep ls w w' := by
  have HL := hide h
  have hfew := h.few
  have HAR := hide har
  clear h har
  go_enter Tryz.func18, Tryz.ntmps18
  go_wp2
  go_loopw [3] (fun i wr => ∃ k : Nat, i = .int .i64 k ∧ k ≤ ls.length ∧ Hid (∀ (j : Nat) (p : Value × List Int), ls[j]? = some p → OB wr B p.1 (if j < k then mkj p j else p.2)) ∧ Hid (Keep ls w wr)) (fun i _ => ls.length - (intOf i).toNat)
  case atStart => exact ⟨0, rfl, Nat.zero_le _, (fun j p hp => by rw [if_neg (by omega)]; exact HL.out.ob j p hp), Keep.refl _ _⟩
  case round =>
    obtain ⟨k, rfl, hk, HO, HK⟩ := hrel
    by_cases hlt : k < ls.length
    case pos =>
      have hlt' : (k : Int) < (ls.length : Int) := by omega
      obtain ⟨p, hp⟩ : ∃ p, ls[k]? = some p := ⟨ls[k], by simp [hlt]⟩
      have hob := HO.out k p hp
      rw [if_neg (by omega)] at hob
      have hcell := HL.out.cell HK.out hp
      have hpl := HL.out.len p (List.mem_of_getElem? hp)
      have hap := HL.out.apart p (List.mem_of_getElem? hp)
      have hgl : gR < wr.heap.size := World.block_lt_of_cell? _ _ hcell
      have HP := hide hp
      obtain rfl := HAR.out (fun e => by rw [e] at hlt; exact absurd hlt (Nat.not_lt_zero _))
      obtain ⟨pv, pl⟩ := p
      obtain ⟨a, c, hv⟩ := hob.shape
      simp only [] at hv hob hcell hpl hap
      subst hv
      have HOB := hide hob
      have HAP := hide hap
      have HCE := hide hcell
      obtain ⟨m, HM⟩ : ∃ m : Int, Hid (m = (k : Int) % 200) := ⟨_, rfl⟩
      clear hob hp hap
      obtain ⟨W5, hW5⟩ : ∃ W5, W5 = wr := ⟨_, rfl⟩
      subst hW5
      go_wp2
      go_loopw [4] (fun i wq => ∃ kk : Nat, i = .int .i64 kk ∧ kk ≤ pl.length ∧ Hid (OB wq B (.slice a pl.length c) (List.replicate kk m ++ pl.drop kk)) ∧ Hid (W5.grownBy wq (Value.slice a pl.length c).ownBlock)) (fun i _ => pl.length - (intOf i).toNat)
      case atStart => exact ⟨0, rfl, Nat.zero_le _, by show OB _ _ _ _; simpa using HOB.out, World.grownBy.refl _ _⟩
      case round =>
        obtain ⟨kk, rfl, hkk, HQ, HG⟩ := hrel
        have hrow : wr.cell? ⟨gR, k, none⟩ = some (.slice a pl.length c) := by
          rw [World.cell?_of_block (w := W5) (HG.out.block gR hgl (fun e => HAP.out e.symm))]; exact HCE.out
        by_cases hl2 : kk < pl.length
        · have hl2' : (kk : Int) < (pl.length : Int) := by omega
          have hlen : (List.replicate kk m ++ pl.drop kk).length = pl.length := by simp; omega
          have HQ' : Hid (OB wr B (.slice a (List.replicate kk m ++ pl.drop kk).length c) (List.replicate kk m ++ pl.drop kk)) := by rw [hlen]; exact HQ.out
          obtain ⟨b, c', hv', hc1, hc2⟩ := HQ'.out.some (by rw [hlen]; omega)
          simp only [Value.slice.injEq] at hv'
          obtain ⟨rfl, -, rfl⟩ := hv'
          obtain ⟨d0, df⟩ := HQ'.out.cellAt (j := kk) (by rw [hlen]; omega)
          have hs := HQ'.out.setAt (j := kk) m
          rw [set_mid m pl kk hl2, hlen] at hs
          have HS := hide hs
          have hmw : (k : Int) % 200 = m := HM.out.symm
          have hwu : IntKind.u8.wrap m = m := by rw [IntKind.wrap_u8, HM.out]; omega
          have hm0 : 0 ≤ m := by rw [HM.out]; omega
          have hm1 : m < 200 := by rw [HM.out]; omega
          have HGN : Hid (W5.grownBy (wr.setCell ⟨b, kk, none⟩ (.int .u8 m)) (Value.slice (some ⟨b, 0, none⟩) pl.length c).ownBlock) := HG.out.trans (grownBy_set rfl)
          clear hs hlen HQ HG HQ' hcell
          go_wp2
          go_roundw
          case rel => exact ⟨kk + 1, by go_num, by omega, HS.out, HGN.out⟩
          case measure => simp [intOf]; omega
        · have hl2' : ¬ (kk : Int) < (pl.length : Int) := by omega
          have HO3 : Hid (∀ (j : Nat) (p : Value × List Int), ls[j]? = some p → OB wr B p.1 (if j < k + 1 then mkj p j else p.2)) := by
            intro j q hq
            by_cases ej : j = k
            · subst ej
              have e := HP.out.symm.trans hq
              simp only [Option.some.injEq] at e
              subst e
              rw [if_pos (by omega)]
              have h := HQ.out
              rw [List.drop_eq_nil_of_le (by omega), List.append_nil, show kk = pl.length by omega, HM.out] at h
              exact h
            · have hq2 := HO.out j q hq
              have e : (if j < k + 1 then mkj q j else q.2) = (if j < k then mkj q j else q.2) := by
                by_cases hj : j < k
                · rw [if_pos hj, if_pos (by omega)]
                · rw [if_neg hj, if_neg (by omega)]
              rw [e]
              exact hq2.move fun b hb => HG.out.block b (hq2.lt b hb).2 (fun e2 => HL.out.sep j k q _ hq HP.out ej b hb e2.symm)
          have HK3 := hide (HK.out.trans (Keep.grown (List.mem_of_getElem? HP.out) HG.out))
          clear hcell
          go_wp2
          go_roundw
          case rel => exact ⟨k + 1, by go_num, by omega, HO3.out, HK3.out⟩
          case measure => simp [intOf]; omega
    case neg =>
      have hlt' : ¬ (k : Int) < (ls.length : Int) := by omega
      have HF : Hid (∀ (j : Nat) (p : Value × List Int), ls[j]? = some p → (0 ≤ j → OB wr B p.1 (mkj p j)) ∧ SB wr p.1 (mkj p j)) := by
        intro j p hp
        have h := HO.out j p hp
        rw [if_pos (by have := (List.getElem?_eq_some_iff.1 hp).1; omega)] at h
        exact ⟨fun _ => h, h.sb⟩
      clear HO
      obtain ⟨W0, hW0⟩ : ∃ W0, W0 = wr := ⟨_, rfl⟩
      subst hW0
      obtain ⟨i8, hi8, hz80, hz81, hz82⟩ := info_parts info28
      have HI8 := hide hi8
      have HZ80 := hide hz80
      have HZ81 := hide hz81
      have HZ82 := hide hz82
      have HW0 := hide HK.out.size
      have HOld : Hid (∀ (j : Nat) (p : Value × List Int), ls[j]? = some p → ∀ b, p.1.ownBlock = some b → b < W0.heap.size) := fun j p hp b hb => Nat.lt_of_lt_of_le (HL.out.lt hp b hb) HW0.out
      clear hi8 hz80 hz81 hz82
      go_wp2
      clear hlt hlt' hk
      go_loopw [5, 6] (fun mo i wq => ∃ (k : Nat) (am : Option Addr) (cm : Nat) (ms : List Value), mo = .slice am k cm ∧ i = .int .i64 k ∧ k ≤ ls.length ∧ Hid (∀ (j : Nat) (p : Value × List Int), ls[j]? = some p → (k ≤ j → OB wq B p.1 (mkj p j)) ∧ SB wq p.1 (mkj p j)) ∧ Hid (Keep ls w wq) ∧ Hid (wq.ownsRow W0.heap.size 22 1 (.slice am k cm) k ms ∧ Longer ls ms) ∧ Hid (W0.heap.size ≤ wq.heap.size)) (fun _ i _ => ls.length - (intOf i).toNat)
      case atStart => exact ⟨0, none, 0, [], rfl, rfl, Nat.zero_le _, HF.out, HK.out, ⟨World.ownsRow_nil _ _ _ _, fun j p _ hj => absurd hj (Nat.not_lt_zero _)⟩, Nat.le_refl _⟩
      case round =>
        clear HF HK
        obtain ⟨k, am, cm, ms, rfl, rfl, hk, HF, HK, HMs, HWs⟩ := hrel
        by_cases hlt : k < ls.length
        case pos =>
          have hlt' : (k : Int) < (ls.length : Int) := by omega
          obtain ⟨p, hp⟩ : ∃ p, ls[k]? = some p := ⟨ls[k], by simp [hlt]⟩
          have hob := (HF.out k p hp).1 (Nat.le_refl _)
          have hcell := HL.out.cell HK.out hp
          have hpl := HL.out.len p (List.mem_of_getElem? hp)
          have HP := hide hp
          obtain rfl := HAR.out (fun e => by rw [e] at hlt; exact absurd hlt (Nat.not_lt_zero _))
          obtain ⟨pv, pl⟩ := p
          obtain ⟨l, hl⟩ : ∃ l, l = mkj (pv, pl) k := ⟨_, rfl⟩
          have HLL := hide hl
          have HLe : Hid (l.length = pl.length) := by show _ = _; rw [hl]; simp [mkj]
          have HLN : Hid (l.length ≤ 100000000000000) := by show _ ≤ _; rw [HLe.out]; exact hpl
          rw [← hl] at hob
          obtain ⟨a, c, hv⟩ := hob.shape
          simp only [] at hv hob hcell hpl
          subst hv
          have HOB := hide hob
          have HBS : Hid (B ≤ wr.heap.size + 1) := by show _ ≤ _; have := HL.out.base; have := HK.out.size; omega
          have HL1 : Hid (l.length + [(241 : Int)].length ≤ 140737488355328) := by show _ ≤ _; have := HLN.out; simp; omega
          clear hob hp hl
          obtain ⟨W5, hW5⟩ : ∃ W5, W5 = wr := ⟨_, rfl⟩
          subst hW5
          go_wp2_with (at_builtin; refine wpList_app rfl _ _ 22 rfl B _ _ l [241] rfl (HOB.out.alloc _) rfl (built_src W5 [241]) HL1.out (by rw [size_alloc']; exact HBS.out) ?_)
          intro v6 w6 ho6 hgr6
          have hst := own_step HOB.out HOB.out.sb (.inl rfl) (World.grownBy.refl _ _) ho6 hgr6
          obtain ⟨a6, c6, hv6⟩ := ho6.shape
          rw [show (l ++ [(241 : Int)]).length = l.length + 1 from by simp] at hv6
          subst hv6
          have HO6 : Hid (OB w6 B (.slice a6 (l.length + 1) c6) (l ++ ([241] ++ List.replicate 0 242))) := by show OB _ _ _ _; simpa using ho6
          have HST := hide hst
          clear ho6 hgr6 hst hcell
          go_wp2
          go_loopw [7, 8] (fun mo i wq => ∃ (i' : Nat) (a' : Option Addr) (c' : Nat), mo = .slice a' (l.length + 1 + i') c' ∧ i = .int .i64 i' ∧ i' ≤ 99 ∧ Hid (OB wq B (.slice a' (l.length + 1 + i') c') (l ++ ([241] ++ List.replicate i' 242))) ∧ Hid (SB wq (.slice a l.length c) l) ∧ Hid ((Value.slice a' (l.length + 1 + i') c').ownBlock = (Value.slice a l.length c).ownBlock ∨ ∀ b, (Value.slice a' (l.length + 1 + i') c').ownBlock = some b → W5.heap.size ≤ b) ∧ Hid (W5.grownBy wq (Value.slice a l.length c).ownBlock)) (fun _ i _ => 99 - (intOf i).toNat)
          case atStart => exact ⟨0, a6, c6, rfl, rfl, by omega, HO6.out, HST.out.1, HST.out.2.1, HST.out.2.2⟩
          case round =>
            clear HO6 HST
            obtain ⟨i', am', cm', rfl, rfl, hi', HM, HSB, HLOC, HG⟩ := hrel
            by_cases hlt9 : i' < 99
            · have hlt9' : (i' : Int) < 99 := by omega
              obtain ⟨L2, hL2⟩ : ∃ L2, L2 = l ++ ([(241 : Int)] ++ List.replicate i' 242) := ⟨_, rfl⟩
              have HL2 := hide hL2
              clear hL2
              have HHle : Hid (L2.length = l.length + 1 + i') := by show _ = _; rw [HL2.out]; simp; omega
              have HM' : Hid (OB wr B (.slice am' L2.length cm') L2) := by rw [HHle.out, HL2.out]; exact HM.out
              have HLNN : Hid (L2.length + [(242 : Int)].length ≤ 140737488355328) := by show _ ≤ _; rw [HHle.out]; have := HLN.out; simp; omega
              have HBS2 : Hid (B ≤ wr.heap.size + 1) := by show _ ≤ _; have := HL.out.base; have := HK.out.size; have := HG.out.size; omega
              have HLOC' : Hid ((Value.slice am' L2.length cm').ownBlock = (Value.slice a l.length c).ownBlock ∨ ∀ b, (Value.slice am' L2.length cm').ownBlock = some b → W5.heap.size ≤ b) := by rw [HHle.out]; exact HLOC.out
              rw [← HHle.out]
              clear HM HLOC
              go_wp2_with (at_builtin; refine wpList_app rfl _ _ 22 rfl B _ _ L2 [242] rfl (HM'.out.alloc _) rfl (built_src wr [242]) HLNN.out (by rw [size_alloc']; exact HBS2.out) ?_)
              intro v' w7 hown hgrew
              have hob7 : OB w7 B v' (l ++ ([241] ++ List.replicate (i' + 1) 242)) := by
                have e : l ++ ([(241 : Int)] ++ List.replicate (i' + 1) 242) = L2 ++ [242] := by rw [HL2.out, List.replicate_succ']; simp
                rw [e]
                exact hown
              have hst7 := own_step HOB.out HSB.out HLOC'.out HG.out hob7 hgrew
              obtain ⟨a7, c7, hv7⟩ := hob7.shape
              have e7 : (l ++ ([(241 : Int)] ++ List.replicate (i' + 1) 242)).length = l.length + 1 + (i' + 1) := by simp; omega
              rw [e7] at hv7
              have HST := hide hst7
              have HO7 := hide hob7
              clear hown hgrew hob7 e7 hst7
              rw [hv7] at HST HO7 ⊢
              clear hv7
              go_wp2
              go_roundw
              case rel => exact ⟨i' + 1, a7, c7, rfl, by go_num, by omega, HO7.out, HST.out.1, HST.out.2.1, HST.out.2.2⟩
              case measure => simp [intOf]; omega
            · have hlt9' : ¬ (i' : Int) < 99 := by omega
              obtain rfl : i' = 99 := by omega
              have HRow : Hid (wr.ownsRow W0.heap.size 22 1 (.slice am k cm) k ms) := ownsRow_move HMs.out.1 fun b hb => HG.out.block b (World.ownsRow.lt HMs.out.1 b hb).2 (fun e2 => by
                have h1 := (World.ownsRow.lt HMs.out.1 b hb).1
                have h2 := HOld.out k _ HP.out b e2.symm
                omega)
              have HN1 : Hid (k + 1 ≤ maxLen) := by show _ ≤ _; unfold maxLen; omega
              have HN2 : Hid ((k + 1) * 24 ≤ 140737488355328) := by show _ ≤ _; omega
              have HN3 : Hid (W0.heap.size ≤ wr.heap.size + 1) := by show _ ≤ _; have := HWs.out; have := HG.out.size; omega
              go_wp2_with (at_builtin; go_must (refine wpList_append_own_at _ rfl _ _ 39 rfl W0.heap.size 22 i8 (.slice none 0 0) 1 24 Tryz.underlying39 HI8.out HZ80.out HZ81.out HZ82.out rfl (by decide) _ _ _ rfl (ownsRow_alloc HRow.out _) ⟨wr.heap.size, 0, none⟩ 1 1 [.slice am' (l.length + 1 + 99) cm'] rfl rfl (cell_one_new _ _ _) (fun u hu => by rw [List.mem_singleton.1 hu]; rfl) HN1.out HN2.out (by rw [size_alloc']; exact HN3.out) ?_))
              intro v8 w8 hown8 hgrow8 _ hloc8
              have hks : W0.heap.size ≤ wr.heap.size := by have := HWs.out; have := HG.out.size; omega
              have HKp : Hid (∀ b, b < W0.heap.size → w8.heap[b]? = wr.heap[b]?) := fun b hb => (hgrow8.block b (by rw [size_alloc']; omega) (fun e2 => by have := (World.ownsRow.lt HRow.out b e2.symm).1; omega)).trans (Below.heap_alloc _ _ b (by omega))
              have HF8 : Hid (∀ (j : Nat) (p : Value × List Int), ls[j]? = some p → (k + 1 ≤ j → OB w8 B p.1 (mkj p j)) ∧ SB w8 p.1 (mkj p j)) := by
                intro j q hq
                by_cases ej : j = k
                · subst ej
                  have e := HP.out.symm.trans hq
                  simp only [Option.some.injEq] at e
                  subst e
                  rw [← HLL.out]
                  exact ⟨fun h => by omega, HSB.out.same fun b hb => HKp.out b (HOld.out _ _ HP.out b hb)⟩
                · have hq2 := HF.out j q hq
                  have hkeep : ∀ b, q.1.ownBlock = some b → w8.heap[b]? = W5.heap[b]? := fun b hb => (HKp.out b (HOld.out j q hq b hb)).trans (HG.out.block b (Nat.lt_of_lt_of_le (HOld.out j q hq b hb) HWs.out) (fun e2 => HL.out.sep j k q _ hq HP.out ej b hb e2.symm))
                  exact ⟨fun h => (hq2.1 (by omega)).move hkeep, hq2.2.same hkeep⟩
              have HK8 : Hid (Keep ls w w8) := by
                have h1 := HK.out.trans (Keep.grown (List.mem_of_getElem? HP.out) HG.out)
                exact ⟨hgrow8.os.trans h1.os, hgrow8.tape.trans h1.tape, hgrow8.output.trans h1.output, by have := hgrow8.size; rw [size_alloc'] at this; have := h1.size; omega, fun b hb hn => (HKp.out b (Nat.lt_of_lt_of_le hb HW0.out)).trans (h1.block b hb hn)⟩
              have HMl : Hid (ms.length = k) := by have h := HRow.out.1; show _ = _; omega
              have HM8 : Hid (w8.ownsRow W0.heap.size 22 1 v8 (k + 1) (ms ++ [Value.slice am' (l.length + 1 + 99) cm']) ∧ Longer ls (ms ++ [Value.slice am' (l.length + 1 + 99) cm'])) := by
                refine ⟨hown8, fun j q hq hj => ?_⟩
                by_cases ej : j < ms.length
                · obtain ⟨x, y, hxy⟩ := HMs.out.2 j q hq ej
                  exact ⟨x, y, by rw [List.getElem?_append_left ej]; exact hxy⟩
                · rw [List.length_append, List.length_singleton] at hj
                  have ek : j = k := by have := HMl.out; omega
                  subst ek
                  have e := HP.out.symm.trans hq
                  simp only [Option.some.injEq] at e
                  subst e
                  refine ⟨am', cm', ?_⟩
                  rw [List.getElem?_append_right (by omega)]
                  have e0 : j - ms.length = 0 := by omega
                  rw [e0]
                  have el := HLe.out
                  simp only [List.getElem?_cons_zero]
                  rw [show l.length + 1 + 99 = pl.length + 100 by omega]
              have HW8 : Hid (W0.heap.size ≤ w8.heap.size) := by show _ ≤ _; have := hgrow8.size; rw [size_alloc'] at this; omega
              have hsh : ∃ a8 c8, v8 = .slice a8 (k + 1) c8 := by
                rcases hown8.2 with ⟨_, h0⟩ | ⟨g8, c8, cur, hv, _⟩
                · omega
                · exact ⟨_, _, hv⟩
              obtain ⟨a8, c8, rfl⟩ := hsh
              clear hown8 hgrow8 hloc8
              go_wp2
              go_roundw
              case rel => exact ⟨k + 1, a8, c8, _, rfl, by go_num, by omega, HF8.out, HK8.out, HM8.out, HW8.out⟩
              case measure => simp [intOf]; omega
        case neg =>
          have hlt' : ¬ (k : Int) < (ls.length : Int) := by omega
          obtain rfl : k = ls.length := by omega
          have HF2 : Hid (∀ (j : Nat) (p : Value × List Int), ls[j]? = some p → SB wr p.1 (mkj p j)) := fun j p hp => (HF.out j p hp).2
          clear HF
          obtain ⟨Wf, hWf⟩ : ∃ Wf, Wf = wr := ⟨_, rfl⟩
          subst hWf
          have hcm : cm ≤ 9223372036854775807 := by
            rcases HMs.out.1.2 with ⟨hx, _⟩ | ⟨g8, c8, cur, hv, _, _, _, h4, _⟩
            · simp only [Value.slice.injEq] at hx; omega
            · simp only [Value.slice.injEq] at hv; unfold maxLen at h4; omega
          go_wp2
          go_loopw [9] (fun i wq => ∃ k n : Nat, i = .int .i64 k ∧ k ≤ ls.length ∧ wq = Wf.drewN n) (fun i _ => ls.length - (intOf i).toNat)
          case atStart => exact ⟨0, 0, rfl, Nat.zero_le _, rfl⟩
          case round =>
            obtain ⟨k, n, rfl, hk, hw⟩ := hrel
            subst hw
            by_cases hlt : k < ls.length
            · have hlt' : (k : Int) < (ls.length : Int) := by omega
              obtain ⟨p, hp⟩ : ∃ p, ls[k]? = some p := ⟨ls[k], by simp [hlt]⟩
              have hsb := HF2.out k p hp
              have hcell := HL.out.cell HK.out hp
              have hpl := HL.out.len p (List.mem_of_getElem? hp)
              obtain rfl := HAR.out (fun e => by rw [e] at hlt; exact absurd hlt (Nat.not_lt_zero _))
              obtain ⟨xm, ym, hxm⟩ := HMs.out.2 k p hp (by have h := HMs.out.1.1; omega)
              obtain ⟨gm, hgm, hmc⟩ : ∃ gm, am = some ⟨gm, 0, none⟩ ∧ Wf.cell? ⟨gm, k, none⟩ = some (.slice xm (p.2.length + 100) ym) := by
                rcases HMs.out.1.2 with ⟨_, h0⟩ | ⟨g8, c8, cur, hv, _⟩
                · omega
                · have hc := World.ownsRow.cells HMs.out.1 (g := g8) (by rw [hv]; rfl) k _ hxm
                  rw [Addr.add_lit] at hc
                  simp only [Value.slice.injEq] at hv
                  exact ⟨g8, hv.1, by simpa using hc⟩
              subst hgm
              obtain ⟨a, c, hv⟩ := (HL.out.ob k p hp).shape
              obtain ⟨pv, pl⟩ := p
              simp only [] at hv hsb hcell hpl hmc
              subst hv
              have HSB := hide hsb
              obtain ⟨m, HM⟩ : ∃ m : Int, Hid (m = (k : Int) % 200) := ⟨_, rfl⟩
              have hmw : (k : Int) % 200 = m := HM.out.symm
              have hwu : IntKind.u8.wrap m = m := by rw [IntKind.wrap_u8, HM.out]; omega
              have HMk : Hid (∀ W : World, W.heap = Wf.heap → SB W (.slice a pl.length c) (List.replicate pl.length m)) := fun W hW => by
                rw [HM.out]
                exact HSB.out.same fun b _ => by rw [hW]
              have HCall : Hid (∀ x : Nat, Calls Tryz.prog 28 #[.slice a pl.length c, .int .u8 m] (Wf.drewN (n + x)) fun e w'' => e = .returned (.bool true) ∧ ∃ n1, w'' = Wf.drewN (n + n1)) := fun x => (marked_any _ pl.length m (Wf.drewN (n + x)) (HMk.out (Wf.drewN (n + x)) rfl) hpl).mono fun _ _ h => ⟨h.1, x, h.2⟩
              clear hp hsb hxm HMk HSB
              go_wp2
              go_quiet (first | (go_at_call 28; exact HCall.out _))
              go_wp2
              go_roundw
              case rel => exact ⟨k + 1, _, by go_num, by omega, rfl⟩
              case measure => simp [intOf]; omega
            · have hlt' : ¬ (k : Int) < (ls.length : Int) := by omega
              go_wp2
              go_ret
              refine ⟨rfl, ?_⟩
              have h := HK.out
              exact ⟨h.os, h.tape, h.output, h.size, h.block⟩

end Go.Proofs.YtpmgnpfpnkmmbaaGreatDoor

namespace Go.Proofs.YtpmgnpfpnkmmbaaGreatDoor
open Go.RowKit Go.Maps
set_option maxRecDepth 20000
set_option linter.unusedVariables false
set_option linter.unusedSimpArgs false

theorem numb_any (x : Int) (w : World) : Calls Tryz.prog 11 #[.int .i64 x] w fun e w' => e = .returned (.int .i64 x) ∧ w' = w := by
  go_enter Tryz.func11, Tryz.ntmps11
  go_wp2
  go_ret
  exact ⟨rfl, rfl⟩

theorem below_dr8 {B : Nat} {a w : World} (h : Below B a w) (n : Nat) : Below B a (w.drewN n) := ⟨h.1, h.2, h.3, h.4, h.5⟩

theorem box_cells8 {w : World} {c : Nat} {A : Array Value} {t : TypeId} {k : Nat × Nat} (h : w.heap[c]? = some (.cells A t k)) (i : Nat) {u : Value} (hu : A[i]? = some u) : w.cell? ⟨c, i, none⟩ = some u := by
  unfold World.cell?
  simp only [h]
  exact hu

theorem lists2 {w6 : World} {B s : Nat} {v1 v2 : Value} {l1 l2 : List Int} (o1 : OB w6 B v1 l1) (o2 : OB w6 B v2 l2) (r1 : ∀ k, v1.ownBlock = some k → k < s) (r2 : ∀ k, v2.ownBlock = some k → s ≤ k) (h1 : l1.length ≤ 20000000) (h2 : l2.length ≤ 20000000) (hB : B ≤ w6.heap.size) (T : Nat) :
    Lists (w6.alloc (.cells #[v1, v2] T)) B [(v1, l1), (v2, l2)] w6.heap.size := by
  have hbx := heap_alloc_new w6 (.cells #[v1, v2] T)
  refine ⟨fun j p hp => ?_, fun i j p q hp hq hij k hk hk2 => ?_, fun j p hp => ?_, fun p hp e => ?_, by simp, fun p hp => ?_, by rw [size_alloc']; omega⟩
  · rcases j with _ | _ | j
    · cases hp; exact o1.alloc _
    · cases hp; exact o2.alloc _
    · simp at hp
  · rcases i with _ | _ | i <;> rcases j with _ | _ | j <;> simp at hp hq hij
    · subst hp hq; have := r1 k hk; have := r2 k hk2; omega
    · subst hp hq; have := r2 k hk; have := r1 k hk2; omega
  · rcases j with _ | _ | j
    · cases hp; exact box_cells8 hbx 0 rfl
    · cases hp; exact box_cells8 hbx 1 rfl
    · simp at hp
  · simp only [List.mem_cons, List.not_mem_nil, or_false] at hp
    rcases hp with rfl | rfl
    · have := (o1.lt _ e).2; omega
    · have := (o2.lt _ e).2; omega
  · simp only [List.mem_cons, List.not_mem_nil, or_false] at hp
    rcases hp with rfl | rfl <;> (simp only; omega)

theorem lists3 {w6 : World} {B s t : Nat} {v1 v2 v3 : Value} {l1 l2 l3 : List Int} (o1 : OB w6 B v1 l1) (o2 : OB w6 B v2 l2) (o3 : OB w6 B v3 l3) (r1 : ∀ k, v1.ownBlock = some k → k < s) (r2 : ∀ k, v2.ownBlock = some k → s ≤ k ∧ k < t) (r3 : ∀ k, v3.ownBlock = some k → t ≤ k) (hst : s ≤ t) (h1 : l1.length ≤ 20000000) (h2 : l2.length ≤ 20000000) (h3 : l3.length ≤ 20000000) (hB : B ≤ w6.heap.size) (T : Nat) :
    Lists (w6.alloc (.cells #[v1, v2, v3] T)) B [(v1, l1), (v2, l2), (v3, l3)] w6.heap.size := by
  have hbx := heap_alloc_new w6 (.cells #[v1, v2, v3] T)
  refine ⟨fun j p hp => ?_, fun i j p q hp hq hij k hk hk2 => ?_, fun j p hp => ?_, fun p hp e => ?_, by simp, fun p hp => ?_, by rw [size_alloc']; omega⟩
  · rcases j with _ | _ | _ | j
    · cases hp; exact o1.alloc _
    · cases hp; exact o2.alloc _
    · cases hp; exact o3.alloc _
    · simp at hp
  · rcases i with _ | _ | _ | i <;> rcases j with _ | _ | _ | j <;> simp at hp hq hij
    · subst hp hq; have := r1 k hk; have := (r2 k hk2).1; omega
    · subst hp hq; have := r1 k hk; have := r3 k hk2; omega
    · subst hp hq; have := (r2 k hk).1; have := r1 k hk2; omega
    · subst hp hq; have := (r2 k hk).2; have := r3 k hk2; omega
    · subst hp hq; have := r3 k hk; have := r1 k hk2; omega
    · subst hp hq; have := r3 k hk; have := (r2 k hk2).2; omega
  · rcases j with _ | _ | _ | j
    · cases hp; exact box_cells8 hbx 0 rfl
    · cases hp; exact box_cells8 hbx 1 rfl
    · cases hp; exact box_cells8 hbx 2 rfl
    · simp at hp
  · simp only [List.mem_cons, List.not_mem_nil, or_false] at hp
    rcases hp with rfl | rfl | rfl
    · have := (o1.lt _ e).2; omega
    · have := (o2.lt _ e).2; omega
    · have := (o3.lt _ e).2; omega
  · simp only [List.mem_cons, List.not_mem_nil, or_false] at hp
    rcases hp with rfl | rfl | rfl <;> (simp only; omega)

theorem keep_below8 {w2 w6 w7 : World} {ls : List (Value × List Int)} {B : Nat} (hb : Below B w2 w6) (hk : Keep ls w6 w7) (hB : B ≤ w2.heap.size) (hl : ∀ p ∈ ls, ∀ k, p.1.ownBlock = some k → B ≤ k) : Below B w2 w7 :=
  ⟨hk.os.trans hb.os, hk.tape.trans hb.tape, hk.output.trans hb.output, Nat.le_trans hb.size hk.size, fun k hlt => (hk.block k (Nat.lt_of_lt_of_le (Nat.lt_of_lt_of_le hlt hB) hb.size) (fun p hp e => by have := hl p hp k e; omega)).trans (hb.block k hlt)⟩

theorem ob_front8 {w : World} {base g c : Nat} {l : List Int} (h : OB w base (.slice (some ⟨g, 0, none⟩) (l.length + 4) c) (l ++ marks4)) : SB w (.slice (some ⟨g, 0, none⟩) l.length c) l ∧ l.length + 4 ≤ c ∧ c ≤ 9223372036854775807 := by
  have e4 : (l ++ marks4).length = l.length + 4 := by simp [marks4]
  obtain ⟨ao, cap, he, h1, h2, h3, h4⟩ := h.sb
  rw [e4] at he h1
  simp only [Value.slice.injEq] at he
  obtain ⟨rfl, -, rfl⟩ := he
  unfold maxLen at h2
  refine ⟨⟨_, _, rfl, by omega, by unfold maxLen; omega, (fun q => by cases q), fun x hx i hi => ?_⟩, h1, h2⟩
  have := h4 x hx i (by rw [e4]; omega)
  rw [this]
  simp [hi, List.getElem?_append_left]

theorem same8 {w : World} {v1 v2 : Value} {l : List Int} (h1 : SB w v1 l) (h2 : SB w v2 l) : Calls Tryz.prog 16 #[v1, v2] w fun e w' => e = .returned (.bool true) ∧ ∃ n, w' = w.drewN n := by
  refine (same_any v1 v2 l l w h1 h2).mono ?_
  rintro e w1 ⟨rfl, hn⟩
  exact ⟨by simp [eqB], hn⟩
end Go.Proofs.YtpmgnpfpnkmmbaaGreatDoor

namespace Go.Proofs.YtpmgnpfpnkmmbaaGreatDoor
open Go.ChangeShapes Go.WideShapes Go.ChangeAt Go.RowKit Go.Joins Go.Deep

theorem own : ownKnob Tryz.prog.godebug = none := by kernel_rfl
theorem laidOut : laidOutB Tryz.prog = true := by kernel_rfl
theorem bytesByte : Tryz.prog.bytesOf 5 = 1 := by kernel_rfl

theorem byte_wf {n : Int} (h : (Lit.int .u8 n).wf = true) : 0 ≤ n ∧ n < 256 := by
  simp [Lit.wf, IntKind.min, IntKind.max, IntKind.signed, IntKind.bits] at h
  omega

theorem i64_in {n : Int} (h : (Lit.int .i64 n).wf = true) : -9223372036854775808 ≤ n ∧ n ≤ 9223372036854775807 := by
  simp [Lit.wf, IntKind.min, IntKind.max, IntKind.signed, IntKind.bits] at h
  omega

theorem open_bytes {H : Type} {enc : TypeId × Value → H} {W : World} {ao : Option Addr} {len cap : Nat} {d : DataW H} {ps : List MemPlace}
    (h : DataW.Trod enc Tryz.prog W 0 (fun _ => true) true 22 (.slice ao len cap) d ps) :
    ∃ l, SB W (.slice ao len cap) l ∧ Byt l ∧ (l = [] ∨ ∃ elems spare, d = .slice elems spare ∧ l.length ≤ elems.length + spare.length) := by
  obtain ⟨fuel, hf⟩ := h
  rcases open_ints Tryz.underlying22 Tryz.underlying5 (by kernel_rfl) hf with ⟨hcs, _⟩ | ⟨x, ll, c, zs, hcs, _, hl, hm, hz, hx, hcell, hwz⟩
  · simp [Value.cells] at hcs
    obtain ⟨rfl, rfl, rfl⟩ := hcs
    exact ⟨[], ⟨none, 0, rfl, Nat.le_refl _, Nat.zero_le _, fun _ => rfl, fun x hx => by cases hx⟩, (fun i => by simp), .inl rfl⟩
  · simp [Value.cells] at hcs
    obtain ⟨rfl, rfl, rfl⟩ := hcs
    simp only [if_true] at hz
    have e : (zs.take len).length = len := by rw [List.length_take]; omega
    simp only [Prod.mk.injEq] at hx
    have hbz : Byt zs := by
      intro i
      by_cases hi : i < zs.length
      · have : zs.getD i 0 = zs[i] := by simp [hi]
        rw [this]
        exact byte_wf (hwz _ (List.getElem_mem hi))
      · have : zs.getD i 0 = 0 := by simp [hi]
        rw [this]; decide
    refine ⟨zs.take len, ⟨some x, cap, by rw [e], by omega, hm, (fun h => by cases h), fun y hy i hi => ?_⟩, byt_take hbz _, .inr ⟨_, _, hx.1, ?_⟩⟩
    · cases hy
      rw [e] at hi
      rw [hcell i (by omega)]
      simp [List.getD, hi]
    · simp [lits]

theorem reach_bytes {H : Type} {ts : List TypeId} {ds : List (DataW H)} {j : Nat} {l : List Int} {d : DataW H} (h : (DataW.weightsEach Tryz.prog ts ds).all (· ≤ reachBytes) = true) (ht : ts[j]? = some 22) (hd : ds[j]? = some d)
    (hl : l = [] ∨ ∃ elems spare, d = .slice elems spare ∧ l.length ≤ elems.length + spare.length) : l.length ≤ 140737488351232 := by
  rcases hl with rfl | ⟨elems, spare, rfl, hl⟩
  · simp
  · have := sized_slice h ht hd Tryz.underlying22
    rw [bytesByte] at this
    simp only [reachBytes] at this
    omega

theorem exists_list {α : Type} (P : Nat → α → Prop) : ∀ n, (∀ i, i < n → ∃ a, P i a) → ∃ l : List α, l.length = n ∧ ∀ i a, l[i]? = some a → P i a
  | 0, _ => ⟨[], rfl, fun i a h => by simp at h⟩
  | n + 1, h => by
    obtain ⟨l, hl, hp⟩ := exists_list P n fun i hi => h i (by omega)
    obtain ⟨a, ha⟩ := h n (by omega)
    refine ⟨l ++ [a], by simp [hl], fun i x hx => ?_⟩
    by_cases hi : i < l.length
    · rw [List.getElem?_append_left hi] at hx
      exact hp i x hx
    · rw [List.getElem?_append_right (by omega)] at hx
      have : i - l.length = 0 := by
        by_cases e : i - l.length = 0
        · exact e
        · rw [List.getElem?_eq_none (by simp; omega)] at hx; cases hx
      rw [this] at hx
      simp at hx
      rw [← hx, show i = n by omega]
      exact ha

theorem u32_in {n : Int} (h : (Lit.int .u32 n).wf = true) : 0 ≤ n ∧ n < 4294967296 := by
  simp [Lit.wf, IntKind.min, IntKind.max, IntKind.signed, IntKind.bits] at h
  omega

theorem below_of_same {f : FuncId} {args : Array Value} {W : World} {r : Ending} (h : Calls Tryz.prog f args W fun e w' => e = r ∧ w' = W) : Calls Tryz.prog f args W fun e w' => e = r ∧ Below W.heap.size W w' :=
  h.mono fun e w' ⟨he, hw⟩ => ⟨he, by rw [hw]; exact Below.refl _ _⟩

end Go.Proofs.YtpmgnpfpnkmmbaaGreatDoor

namespace Go.Proofs.YtpmgnpfpnkmmbaaGreatDoor
open Go.ChangeShapes Go.WideShapes Go.ChangeAt Go.RowKit Go.Joins Go.Deep

theorem bytesInt : Tryz.prog.bytesOf 3 = 8 := by kernel_rfl

/-- A list of ints that is handed in. -/
theorem open_ints4 {H : Type} {enc : TypeId × Value → H} {W : World} {ao : Option Addr} {len cap : Nat} {d : DataW H} {ps : List MemPlace} (h : DataW.Trod enc Tryz.prog W 0 (fun _ => true) true 81 (.slice ao len cap) d ps) :
    ∃ l, SI W (.slice ao len cap) l ∧ (l = [] ∨ ∃ elems spare, d = .slice elems spare ∧ l.length ≤ elems.length + spare.length) := by
  obtain ⟨fuel, hf⟩ := h
  rcases open_ints Tryz.underlying81 Tryz.underlying3 (by kernel_rfl) hf with ⟨hcs, _⟩ | ⟨x, ll, cc, zs, hcs, _, hl, hm, hz, hx, hcell, hwz⟩
  · simp [Value.cells] at hcs
    obtain ⟨rfl, rfl, rfl⟩ := hcs
    exact ⟨[], ⟨none, 0, rfl, Nat.le_refl _, Nat.zero_le _, fun _ => rfl, fun x hx => by cases hx⟩, .inl rfl⟩
  · simp [Value.cells] at hcs
    obtain ⟨rfl, rfl, rfl⟩ := hcs
    simp only [if_true] at hz
    have e : (zs.take len).length = len := by rw [List.length_take]; omega
    simp only [Prod.mk.injEq] at hx
    refine ⟨zs.take len, ⟨some x, cap, by rw [e], by omega, hm, (fun h => by cases h), fun z hz i hi => ?_⟩, .inr ⟨_, _, hx.1, ?_⟩⟩
    · cases hz
      rw [e] at hi
      rw [hcell i (by omega)]
      simp [List.getD, hi]
    · simp [lits]

/-- The same, with the bounds of its numbers. -/
theorem open_intsb {H : Type} {enc : TypeId × Value → H} {W : World} {ao : Option Addr} {len cap : Nat} {d : DataW H} {ps : List MemPlace} (h : DataW.Trod enc Tryz.prog W 0 (fun _ => true) true 81 (.slice ao len cap) d ps) :
    ∃ l, SI W (.slice ao len cap) l ∧ (∀ x ∈ l, -9223372036854775808 ≤ x ∧ x ≤ 9223372036854775807) ∧ (l = [] ∨ ∃ elems spare, d = .slice elems spare ∧ l.length ≤ elems.length + spare.length) := by
  obtain ⟨fuel, hf⟩ := h
  rcases open_ints Tryz.underlying81 Tryz.underlying3 (by kernel_rfl) hf with ⟨hcs, _⟩ | ⟨x, ll, cc, zs, hcs, _, hl, hm, hz, hx, hcell, hwz⟩
  · simp [Value.cells] at hcs
    obtain ⟨rfl, rfl, rfl⟩ := hcs
    exact ⟨[], ⟨none, 0, rfl, Nat.le_refl _, Nat.zero_le _, fun _ => rfl, fun x hx => by cases hx⟩, (fun x hx => by simp at hx), .inl rfl⟩
  · simp [Value.cells] at hcs
    obtain ⟨rfl, rfl, rfl⟩ := hcs
    simp only [if_true] at hz
    have e : (zs.take len).length = len := by rw [List.length_take]; omega
    simp only [Prod.mk.injEq] at hx
    refine ⟨zs.take len, ⟨some x, cap, by rw [e], by omega, hm, (fun h => by cases h), fun z hz i hi => ?_⟩, fun z hz => i64_in (hwz z (List.mem_of_mem_take hz)), .inr ⟨_, _, hx.1, ?_⟩⟩
    · cases hz
      rw [e] at hi
      rw [hcell i (by omega)]
      simp [List.getD, hi]
    · simp [lits]

theorem reach_ints4 {H : Type} {ts : List TypeId} {ds : List (DataW H)} {j : Nat} {l : List Int} {d : DataW H} (h : (DataW.weightsEach Tryz.prog ts ds).all (· ≤ reachBytes) = true) (ht : ts[j]? = some 81) (hd : ds[j]? = some d)
    (hl : l = [] ∨ ∃ elems spare, d = .slice elems spare ∧ l.length ≤ elems.length + spare.length) : l.length ≤ 17592186043904 := by
  rcases hl with rfl | ⟨elems, spare, rfl, hl⟩
  · simp
  · have := sized_slice h ht hd Tryz.underlying81
    rw [bytesInt] at this
    simp only [reachBytes] at this
    omega

end Go.Proofs.YtpmgnpfpnkmmbaaGreatDoor

namespace Go.Proofs.YtpmgnpfpnkmmbaaGreatDoor
open Go.ChangeShapes Go.WideShapes Go.ChangeAt Go.RowKit Go.Joins Go.Deep
set_option maxRecDepth 20000

theorem bulk_pos {H : Type} : ∀ d : DataW H, 0 < Rows.uptoBulk d
  | .lit l => by cases l <;> simp [Rows.uptoBulk]
  | .nil => by simp [Rows.uptoBulk]
  | .ptr _ => by simp [Rows.uptoBulk]
  | .slice _ _ => by simp [Rows.uptoBulk]
  | .agg _ => by simp [Rows.uptoBulk]
  | .iface _ _ => by simp [Rows.uptoBulk]
  | .map _ => by simp [Rows.uptoBulk]
  | .held _ => by simp [Rows.uptoBulk]

theorem bulk_count {H : Type} : ∀ l : List (DataW H), l.length ≤ Rows.uptoBulkAll l
  | [] => Nat.zero_le _
  | d :: r => by
    have h1 := bulk_pos d
    have h2 := bulk_count r
    simp only [Rows.uptoBulkAll, List.length_cons]
    omega

theorem bulk_mem {H : Type} {d : DataW H} : ∀ {l : List (DataW H)}, d ∈ l → Rows.uptoBulk d ≤ Rows.uptoBulkAll l
  | x :: r, h => by
    simp only [Rows.uptoBulkAll]
    rcases List.mem_cons.1 h with e | e
    · rw [e]; omega
    · have := bulk_mem e; omega

theorem bulk_ints4 {H : Type} {ds : List (DataW H)} {d : DataW H} {l : List Int} (hk : Rows.uptoSmall H ds = true) (hd : d ∈ ds) (hl : l = [] ∨ ∃ elems spare, d = .slice elems spare ∧ l.length ≤ elems.length + spare.length) : l.length ≤ 1048576 := by
  rcases hl with rfl | ⟨e, s, rfl, h⟩
  · exact Nat.zero_le _
  · have h0 : Rows.uptoBulkAll ds ≤ 1048576 := of_decide_eq_true hk
    have h3 := bulk_mem hd
    have h1 := bulk_count e
    have h2 := bulk_count s
    simp only [Rows.uptoBulk] at h3
    omega

theorem cArr : Tryz.prog.cellsOf 136 = 19 := by kernel_rfl
theorem cInt : Tryz.prog.cellsOf 3 = 1 := by kernel_rfl
theorem gLeast : Tryz.prog.globalNamed "valise/header.least" = some 2 := by kernel_rfl
theorem tLeast : (Tryz.prog.globals[2]?).map (·.type) = some 136 := by kernel_rfl
theorem gFurther : Tryz.prog.globalNamed "valise/header.further" = some 1 := by kernel_rfl
theorem tFurther : (Tryz.prog.globals[1]?).map (·.type) = some 136 := by kernel_rfl
theorem gOrder : Tryz.prog.globalNamed "valise/header.order" = some 0 := by kernel_rfl
theorem tOrder : (Tryz.prog.globals[0]?).map (·.type) = some 136 := by kernel_rfl

def zlst : List Int := [1, 1, 1, 1, 1, 1, 1, 1, 1, 1, 1, 1, 1, 1, 1, 1, 3, 3, 11]
def zf : List Int := [0, 0, 0, 0, 0, 0, 0, 0, 0, 0, 0, 0, 0, 0, 0, 0, 2, 3, 7]
def zo : List Int := [16, 17, 18, 0, 8, 7, 9, 6, 10, 5, 11, 4, 12, 3, 13, 2, 14, 1, 15]

theorem zl_at : ∀ i : Nat, i < 19 → zlst.getD i 0 = lst i := by decide
theorem zf_at : ∀ i : Nat, i < 19 → zf.getD i 0 = ((frt i : Nat) : Int) := by decide

/-- What the row's list gives: the tables' cells. -/
theorem tab_of {W : World} {rest : List (String × DataW Unit)} (h : laidMet Tryz.prog (("valise/header.least", Lib.tabData .i64 zlst) :: ("valise/header.further", Lib.tabData .i64 zf) :: rest) W) : Tab W := by
  have h1 := Lib.tabIs_of_head gLeast tLeast Tryz.underlying136 Tryz.underlying3 cInt cArr h
  have h2 := Lib.tabIs_of_head gFurther tFurther Tryz.underlying136 Tryz.underlying3 cInt cArr h.tail
  exact ⟨fun i hi => by rw [h1.cell gLeast i (by show i < 19; exact hi), zl_at i hi], fun i hi => by rw [h2.cell gFurther i (by show i < 19; exact hi), zf_at i hi]⟩

theorem ord_of {W : World} {rest : List (String × DataW Unit)} (h : laidMet Tryz.prog (("valise/header.order", Lib.tabData .i64 zo) :: rest) W) : ∀ i : Nat, i < 19 → W.cell? ⟨0, i, none⟩ = some (.int .i64 (zo.getD i 0)) := fun i hi =>
  (Lib.tabIs_of_head gOrder tOrder Tryz.underlying136 Tryz.underlying3 cInt cArr h).cell gOrder i (by show i < 19; exact hi)
end Go.Proofs.YtpmgnpfpnkmmbaaGreatDoor

namespace Go.Proofs.YtpmgnpfpnkmmbaaGreatDoor
open Go.ChangeShapes Go.WideShapes Go.ChangeAt Go.RowKit Go.Joins Go.Deep
set_option maxRecDepth 20000

theorem gXorder : Tryz.prog.globalNamed "valise/valiseref7.order" = some 3 := by kernel_rfl
theorem tXorder : (Tryz.prog.globals[3]?).map (·.type) = some 136 := by kernel_rfl

theorem xord_of {W : World} {rest : List (String × DataW Unit)} (h : laidMet Tryz.prog (("valise/valiseref7.order", Lib.tabData .i64 zo) :: rest) W) : Xodr W := ⟨fun i hi =>
  (Lib.tabIs_of_head gXorder tXorder Tryz.underlying136 Tryz.underlying3 cInt cArr h).cell gXorder i (by show i < 19; exact hi)⟩
end Go.Proofs.YtpmgnpfpnkmmbaaGreatDoor

