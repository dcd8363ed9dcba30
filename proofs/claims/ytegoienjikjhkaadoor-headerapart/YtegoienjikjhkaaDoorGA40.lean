import Derived.Test.YtegoienjikjhkaaDoorGMk5
import Derived.Test.YtegoienjikjhkaaDoorGA39
import Derived.Test.YtegoienjikjhkaaDoorGA13
import Derived.BigQuiet
import Derived.Deep.QuietTactic
namespace Go.Proofs.YtegoienjikjhkaaDoor
open Go.RowKit Go.Maps
set_option maxRecDepth 20000
set_option linter.unusedVariables false

def Mrl (l d L D C : List Int) (R : List Rn) (Z : Int) : Prop := (mkE l d = 0 ∧ L = mkL l ∧ D = mkD d ∧ C = mkC l d ∧ R = mkR l d ∧ Z = mkZ l d) ∨ (mkE l d ≠ 0 ∧ L = [] ∧ D = [] ∧ C = [] ∧ R = [] ∧ Z = 0)

theorem mrl_one {l d L D C L' D' C' : List Int} {R R' : List Rn} {Z Z' : Int} (h : Mrl l d L D C R Z) (h' : Mrl l d L' D' C' R' Z') : L' = L ∧ D' = D ∧ C' = C ∧ R' = R ∧ Z' = Z := by
  rcases h with ⟨e, rfl, rfl, rfl, rfl, rfl⟩ | ⟨e, rfl, rfl, rfl, rfl, rfl⟩ <;> rcases h' with ⟨e', rfl, rfl, rfl, rfl, rfl⟩ | ⟨e', rfl, rfl, rfl, rfl, rfl⟩
  · exact ⟨rfl, rfl, rfl, rfl, rfl⟩
  · exact absurd e e'
  · exact absurd e' e
  · exact ⟨rfl, rfl, rfl, rfl, rfl⟩

def Mrs (w w' : World) (l d : List Int) (e : Ending) : Prop := ∃ aL cL aD cD aC cC aR cR L D C R Z, Mrl l d L D C R Z ∧ e = .returned (.tuple #[.agg #[.slice aL L.length cL, .slice aD D.length cD, .slice aC C.length cC, .slice aR R.length cR, .int .i64 Z], .int .i64 (mkE l d)]) ∧ Mkd w' w.heap.size (.slice aL L.length cL) (.slice aD D.length cD) (.slice aC C.length cC) (.slice aR R.length cR) L D C R

theorem mrs_of {w w' : World} {l d : List Int} {e : Ending} (h : (mkE l d ≠ 0 ∧ MkNo (mkE l d) e) ∨ (mkE l d = 0 ∧ MkYes w w' l d e)) : Mrs w w' l d e := by
  rcases h with ⟨h, hn⟩ | ⟨h, vL, vD, vC, vR, he, hm⟩
  · exact ⟨none, 0, none, 0, none, 0, none, 0, [], [], [], [], 0, .inr ⟨h, rfl, rfl, rfl, rfl, rfl⟩, hn, World.ownsRow_nil _ _ _ _, World.ownsRow_nil _ _ _ _, World.ownsRow_nil _ _ _ _, OR.nil _ _⟩
  · obtain ⟨aL, cL, rfl⟩ := hm.l.shape
    obtain ⟨aD, cD, rfl⟩ := hm.d.shape
    obtain ⟨aC, cC, rfl⟩ := hm.c.shape
    obtain ⟨aR, cR, rfl, _⟩ := hm.r.shape
    exact ⟨aL, cL, aD, cD, aC, cC, aR, cR, _, _, _, _, _, .inl ⟨h, rfl, rfl, rfl, rfl, rfl⟩, by rw [he, h], hm⟩
end Go.Proofs.YtegoienjikjhkaaDoor

namespace Go.Proofs.YtegoienjikjhkaaDoor
open Go.RowKit Go.Maps
set_option maxRecDepth 20000
set_option linter.unusedVariables false

theorem mkB_len {l d : List Int} (h : mkE l d = 0) : ((mkB l d).length : Int) = mkZ l d ∧ (mkB l d).length ≤ 10000 := by
  obtain ⟨f1, f2, f3, f4, f5, f6, f7, f8, f9, f10⟩ := mk_facts h
  obtain ⟨c1, c2, c3, c4, c5⟩ := mk_small h
  have h1 := hdB_len (L := mkL l) (D := mkD d) (C := mkC l d) (R := mkR l d) (fun s => (c2 s).1)
  have h2 := rsz_bound (C := mkC l d) (fun s => ⟨(c2 s).1, by have := (c2 s).2; omega⟩) (mkR l d)
  have h3 := wrt_le (mkC l d)
  have h4 : ((mkB l d).length : Int) = hsz (mkC l d) (mkR l d) := h1
  refine ⟨h4, ?_⟩
  unfold hsz at h4
  omega

theorem wr_facts {l d row : List Int} (hr : row.length ≤ 1000000) : wrE l d row = mkE l d ∧ (mkE l d = 0 → wrR l d row = row ++ mkB l d) ∧ (mkE l d ≠ 0 → wrR l d row = row) := by
  by_cases h : mkE l d = 0
  · have hb := (mkB_len h).2
    have hj : joinE row (mkB l d) = 0 ∧ joinRow row (mkB l d) = row ++ mkB l d := ⟨if_neg (by omega), if_neg (by omega)⟩
    refine ⟨by unfold wrE; rw [if_neg (by simp [h]), hj.1, h], fun _ => by unfold wrR; rw [if_neg (by simp [h]), hj.2], fun q => absurd h q⟩
  · exact ⟨if_pos h, fun q => absurd q h, fun _ => if_pos h⟩

end Go.Proofs.YtegoienjikjhkaaDoor

namespace Go.Proofs.YtegoienjikjhkaaDoor
open Go.RowKit Go.Maps
set_option maxRecDepth 20000
set_option linter.unusedVariables false
set_option linter.unusedSimpArgs false

theorem ownsRow_move {w w' : World} {B : Nat} {e : TypeId} {v : Value} {n : Nat} {xs : List Value} (h : w.ownsRow B e 1 v n xs) (hk : ∀ k, v.ownBlock = some k → w'.heap[k]? = w.heap[k]?) : w'.ownsRow B e 1 v n xs := by
  refine ⟨h.1, ?_⟩
  rcases h.2 with h2 | ⟨g, cap, cur, rfl, h1, h2, r⟩
  · exact .inl h2
  · exact .inr ⟨g, cap, cur, rfl, h1, (hk g rfl).trans h2, r⟩

theorem ownsRow_alloc {w : World} {B : Nat} {e : TypeId} {v : Value} {n : Nat} {xs : List Value} (h : w.ownsRow B e 1 v n xs) (o : Obj) : (w.alloc o).ownsRow B e 1 v n xs := by
  refine ⟨h.1, ?_⟩
  rcases h.2 with h2 | ⟨g, cap, cur, rfl, h1, h2, r⟩
  · exact .inl h2
  · exact .inr ⟨g, cap, cur, rfl, h1, (Below.heap_alloc w o g (Array.getElem?_eq_some_iff.1 h2).1).trans h2, r⟩

theorem OI.setAt {w : World} {base b p j : Nat} {l : List Int} (c : Int) (h : OI w base (.slice (some ⟨b, 0, none⟩) l.length p) l) :
    OI (w.setCell ⟨b, j, none⟩ (.int .i64 c)) base (.slice (some ⟨b, 0, none⟩) l.length p) (l.set j c) := by
  rcases h.2 with ⟨hx, _⟩ | ⟨g, cap, cur, he, h1, h2, h3, h4, h5, h6⟩
  · simp at hx
  · simp only [Value.slice.injEq, Option.some.injEq, Addr.mk.injEq] at he
    obtain ⟨⟨rfl, -, -⟩, -, rfl⟩ := he
    refine ⟨by simp, .inr ⟨b, p, cur.setIfInBounds j (.int .i64 c), by simp, h1, heap_setCell_at _ h2, by simpa using h3, h4, by simpa using h5, ?_⟩⟩
    rw [Nat.mul_one, List.length_set, Array.toList_setIfInBounds, List.map_set]
    rw [Nat.mul_one] at h6
    rw [List.take_set, h6]

theorem OI.cellAt {w : World} {base b p j : Nat} {l : List Int} (h : OI w base (.slice (some ⟨b, 0, none⟩) l.length p) l) (hj : j < l.length) : w.cell? ⟨b, j, none⟩ = some (.int .i64 (l.getD j 0)) ∧ w.frozen? ⟨b, j, none⟩ = false := by
  refine ⟨?_, ?_⟩
  · have := World.ownsRow.cells h (g := b) rfl j (.int .i64 (l.getD j 0)) (by simp [hj])
    rw [Addr.add_lit] at this
    simpa using this
  · rcases h.2 with ⟨hx, _⟩ | ⟨g, cap, cur, he, h1, h2, h3, h4, h5, h6⟩
    · simp at hx
    · simp only [Value.slice.injEq, Option.some.injEq, Addr.mk.injEq] at he
      obtain ⟨⟨rfl, -, -⟩, -, rfl⟩ := he
      simp [World.frozen?, h2]

theorem OI.some {w : World} {base : Nat} {v : Value} {l : List Int} (h : OI w base v l) (hl : 0 < l.length) : ∃ b p, v = .slice (.some ⟨b, 0, none⟩) l.length p ∧ l.length ≤ p ∧ p ≤ 9223372036854775807 := by
  rcases h.2 with ⟨rfl, h0⟩ | ⟨g, cap, cur, rfl, h1, h2, h3, h4, h5, h6⟩
  · omega
  · unfold maxLen at h4
    exact ⟨g, cap, rfl, h3, by omega⟩

theorem SI.len {w : World} {u : Value} {l : List Int} (h : SI w u l) : ∃ a c, u = .slice a l.length c := by
  obtain ⟨a, c, e, -⟩ := h
  exact ⟨a, c, e⟩

structure Keep (ls : List (Value × List Int)) (w w' : World) : Prop where
  os : w'.os = w.os
  tape : w'.tape = w.tape
  output : w'.output = w.output
  size : w.heap.size ≤ w'.heap.size
  block : ∀ k, k < w.heap.size → (∀ p ∈ ls, p.1.ownBlock ≠ some k) → w'.heap[k]? = w.heap[k]?

theorem Keep.refl (ls : List (Value × List Int)) (w : World) : Keep ls w w := ⟨rfl, rfl, rfl, Nat.le_refl _, fun _ _ _ => rfl⟩

theorem Keep.trans {ls : List (Value × List Int)} {a b c : World} (h : Keep ls a b) (k : Keep ls b c) : Keep ls a c :=
  ⟨k.os.trans h.os, k.tape.trans h.tape, k.output.trans h.output, Nat.le_trans h.size k.size, fun i hi hn => (k.block i (Nat.lt_of_lt_of_le hi h.size) hn).trans (h.block i hi hn)⟩

theorem Keep.grown {ls : List (Value × List Int)} {w w' : World} {p : Value × List Int} (hp : p ∈ ls) (h : w.grownBy w' p.1.ownBlock) : Keep ls w w' :=
  ⟨h.os, h.tape, h.output, h.size, fun k hk hn => h.block k hk (fun e => hn p hp e.symm)⟩


/-- The lists that were kept, and the row that holds them. -/
structure Lists (w : World) (B : Nat) (ls : List (Value × List Int)) (gR : Nat) : Prop where
  ob : ∀ (j : Nat) (p : Value × List Int), ls[j]? = some p → OI w B p.1 p.2
  sep : ∀ (i j : Nat) (p q : Value × List Int), ls[i]? = some p → ls[j]? = some q → i ≠ j → ∀ k, p.1.ownBlock = some k → q.1.ownBlock ≠ some k
  row : ∀ (j : Nat) (p : Value × List Int), ls[j]? = some p → w.cell? ⟨gR, j, none⟩ = some p.1
  apart : ∀ p ∈ ls, p.1.ownBlock ≠ some gR
  few : ls.length ≤ 100
  len : ∀ p ∈ ls, p.2.length ≤ 10000000000000
  base : B ≤ w.heap.size

theorem Lists.cell {w wr : World} {B : Nat} {ls : List (Value × List Int)} {gR : Nat} (h : Lists w B ls gR) (hk : Keep ls w wr) {k : Nat} {p : Value × List Int} (hp : ls[k]? = some p) : wr.cell? ⟨gR, k, none⟩ = some p.1 := by
  have hc := h.row k p hp
  rw [World.cell?_of_block (w := w) (hk.block gR (World.block_lt_of_cell? _ _ hc) h.apart)]
  exact hc

theorem Lists.lt {w : World} {B : Nat} {ls : List (Value × List Int)} {gR : Nat} (h : Lists w B ls gR) {j : Nat} {p : Value × List Int} (hp : ls[j]? = some p) : ∀ k, p.1.ownBlock = some k → k < w.heap.size := fun k hk => ((h.ob j p hp).lt k hk).2

theorem SI.same {w w' : World} {v : Value} {l : List Int} (h : SI w v l) (hk : ∀ k, v.ownBlock = some k → w'.heap[k]? = w.heap[k]?) : SI w' v l :=
  h.move fun a u ha hv => by rw [World.cell?_of_block (w := w) (hk a.block hv)]; exact ha

theorem SI.alloc' {w : World} {v : Value} {l : List Int} (h : SI w v l) (o : Obj) : SI (w.alloc o) v l := h.below ((Below.refl _ _).alloc (Nat.le_refl _) o)

theorem OI.prefix {w w' : World} {B B' n c : Nat} {a : Option Addr} {v' : Value} {l r : List Int} (h : OI w B (.slice a n c) l) (h' : OI w' B' v' (l ++ r)) (he : v'.ownBlock = (Value.slice a n c).ownBlock) : SI w' (.slice a n c) l := by
  obtain ⟨ao, cap, hv, h1, h2, h3, h4⟩ := h.sb
  simp only [Value.slice.injEq] at hv
  obtain ⟨rfl, rfl, rfl⟩ := hv
  refine ⟨a, c, rfl, h1, h2, h3, fun x hx i hi => ?_⟩
  subst hx
  rcases h.2 with ⟨hn, _⟩ | ⟨g, cap, cur, hn, _⟩
  · simp at hn
  · simp only [Value.slice.injEq, Option.some.injEq] at hn
    obtain ⟨rfl, -, -⟩ := hn
    rcases h'.2 with ⟨hn', _⟩ | ⟨g', cap', cur', hn', _⟩
    · rw [hn'] at he
      simp [Value.ownBlock] at he
    · rw [hn'] at he
      simp only [Value.ownBlock, Option.some.injEq] at he
      subst he
      have hc := @World.ownsRow.cells _ _ _ _ _ _ _ h' (g := g') (by rw [hn']; rfl) i (.int .i64 (l.getD i 0)) (by rw [List.map_append, List.getElem?_append_left (by simpa using hi)]; simp [hi, List.getD])
      exact hc

theorem own_step {W5 wr w6 : World} {B c : Nat} {a : Option Addr} {vm v' : Value} {l r : List Int} {O : Obj} (hob : OI W5 B (.slice a l.length c) l) (hsb : SI wr (.slice a l.length c) l)
    (hloc : vm.ownBlock = (Value.slice a l.length c).ownBlock ∨ ∀ b, vm.ownBlock = some b → W5.heap.size ≤ b) (hg : W5.grownBy wr (Value.slice a l.length c).ownBlock) (hob6 : OI w6 B v' (l ++ r)) (hgrew : Grew (wr.alloc O) w6 vm v') :
    SI w6 (.slice a l.length c) l ∧ (v'.ownBlock = (Value.slice a l.length c).ownBlock ∨ ∀ b, v'.ownBlock = some b → W5.heap.size ≤ b) ∧ W5.grownBy w6 (Value.slice a l.length c).ownBlock := by
  have hs1 := hg.size
  have hlt := hob.lt
  rcases hgrew with ⟨hv, hw⟩ | ⟨hb, hbel⟩ | ⟨hb, _, hgr⟩
  · subst hv hw
    exact ⟨hsb.alloc' _, hloc, hg.trans (grownBy_alloc' _ _ _)⟩
  · have hs2 := hbel.size
    rw [size_alloc'] at hs2 hb
    refine ⟨(hsb.alloc' _).below hbel, .inr fun b hb' => ?_, ⟨hbel.os.trans hg.os, hbel.tape.trans hg.tape, hbel.output.trans hg.output, by omega, fun k hk hne => ?_⟩⟩
    · rw [hb] at hb'
      simp at hb'
      omega
    · rw [hbel.block k (by rw [size_alloc']; omega), Below.heap_alloc _ _ k (by omega)]
      exact hg.block k hk hne
  · have hs2 := hgr.size
    rw [size_alloc'] at hs2
    rcases hloc with e | e
    · refine ⟨hob.prefix hob6 (hb.trans e), .inl (hb.trans e), ⟨hgr.os.trans hg.os, hgr.tape.trans hg.tape, hgr.output.trans hg.output, by omega, fun k hk hne => ?_⟩⟩
      rw [hgr.block k (by rw [size_alloc']; omega) (by rw [e]; exact hne), Below.heap_alloc _ _ k (by omega)]
      exact hg.block k hk hne
    · refine ⟨(hsb.alloc' _).same fun k hk => hgr.block k (by rw [size_alloc']; have := (hlt k hk).2; omega) (fun e2 => by have := e k e2.symm; have := (hlt k hk).2; omega), .inr fun b hb' => e b (hb.symm.trans hb'), ⟨hgr.os.trans hg.os, hgr.tape.trans hg.tape, hgr.output.trans hg.output, by omega, fun k hk hne => ?_⟩⟩
      rw [hgr.block k (by rw [size_alloc']; omega) (fun e2 => by have := e k e2.symm; omega), Below.heap_alloc _ _ k (by omega)]
      exact hg.block k hk hne

theorem set_mid (m : Int) (L : List Int) (k : Nat) (h : k < L.length) : (List.replicate k m ++ L.drop k).set k m = List.replicate (k + 1) m ++ L.drop (k + 1) := by
  rw [List.set_append_right _ _ (by simp)]
  have e : L.drop k = L[k] :: L.drop (k + 1) := List.drop_eq_getElem_cons h
  have e2 : (L.drop k).set 0 m = m :: L.drop (k + 1) := by rw [e]; rfl
  simp [List.replicate_succ', e2]

theorem infoRow : (Tryd.prog.info? 22).map (fun i => (i.zero, i.size, i.bytes)) = some (some (.slice none 0 0), 1, 24) := by kernel_rfl

def mkj (p : Value × List Int) (j : Nat) : List Int := List.replicate p.2.length (-10 - (j : Int))

def mkm (p : Value × List Int) (j : Nat) (n : Nat) : List Int := mkj p j ++ List.replicate n (-50 - (j : Int))

/-- What 'more' holds: for each list one that is 64 longer. -/
def Longer (wq : World) (z : Nat) (row : Option Nat) (ls : List (Value × List Int)) (ms : List Value) : Prop := ∀ (j : Nat) (p : Value × List Int), ls[j]? = some p → j < ms.length → ∃ v, ms[j]? = some v ∧ SI wq v (mkm p j 64) ∧ ∀ b, v.ownBlock = some b → b < wq.heap.size ∧ (p.1.ownBlock = some b ∨ z ≤ b) ∧ row ≠ some b

set_option maxHeartbeats 4000000 in
theorem own7_walk (w : World) (B gR cR : Nat) (ar : Option Addr) (ls : List (Value × List Int)) (h : Lists w B ls gR) (har : ls ≠ [] → ar = some ⟨gR, 0, none⟩) :
    Calls Tryd.prog 18 #[.slice ar ls.length cR] w fun e w' => e = .returned (.bool true) ∧ Keep ls w w' := by
  have HL := hide h
  have hfew := h.few
  have HAR := hide har
  clear h har
  go_enter Tryd.func18, Tryd.ntmps18
  go_wp2
  go_loopw [3] (fun i wr => ∃ k : Nat, i = .int .i64 k ∧ k ≤ ls.length ∧ Hid (∀ (j : Nat) (p : Value × List Int), ls[j]? = some p → OI wr B p.1 (if j < k then mkj p j else p.2)) ∧ Hid (Keep ls w wr)) (fun i _ => ls.length - (intOf i).toNat)
  case atStart => exact ⟨0, rfl, Nat.zero_le _, (fun j p hp => by rw [if_neg (by omega)]; exact HL.out.ob j p hp), Keep.refl _ _⟩
  case round =>
    obtain ⟨k, rfl, hk, HO, HK⟩ := hrel
    by_cases hlt : k < ls.length
    case pos =>
      have hlt' : (k : Int) < (ls.length : Int) := by omega
      obtain ⟨p, hp⟩ : ∃ p, ls[k]? = some p := ⟨ls[k], by simp [hlt]⟩
      have hob := HO.out k p hp
      rw [if_neg (by omega)] at hob
      have hcell := HL.out.cell HK.out hp
      have hpl := HL.out.len p (List.mem_of_getElem? hp)
      have hap := HL.out.apart p (List.mem_of_getElem? hp)
      have hgl : gR < wr.heap.size := World.block_lt_of_cell? _ _ hcell
      have HP := hide hp
      obtain rfl := HAR.out (fun e => by rw [e] at hlt; exact absurd hlt (Nat.not_lt_zero _))
      obtain ⟨pv, pl⟩ := p
      obtain ⟨a, c, hv⟩ := hob.shape
      simp only [] at hv hob hcell hpl hap
      subst hv
      have HOB := hide hob
      have HAP := hide hap
      have HCE := hide hcell
      obtain ⟨m, HM⟩ : ∃ m : Int, Hid (m = -10 - (k : Int)) := ⟨_, rfl⟩
      clear hob hp hap
      obtain ⟨W5, hW5⟩ : ∃ W5, W5 = wr := ⟨_, rfl⟩
      subst hW5
      go_wp2
      go_loopw [4] (fun i wq => ∃ kk : Nat, i = .int .i64 kk ∧ kk ≤ pl.length ∧ Hid (OI wq B (.slice a pl.length c) (List.replicate kk m ++ pl.drop kk)) ∧ Hid (W5.grownBy wq (Value.slice a pl.length c).ownBlock)) (fun i _ => pl.length - (intOf i).toNat)
      case atStart => exact ⟨0, rfl, Nat.zero_le _, by show OI _ _ _ _; simpa using HOB.out, World.grownBy.refl _ _⟩
      case round =>
        obtain ⟨kk, rfl, hkk, HQ, HG⟩ := hrel
        have hrow : wr.cell? ⟨gR, k, none⟩ = some (.slice a pl.length c) := by
          rw [World.cell?_of_block (w := W5) (HG.out.block gR hgl (fun e => HAP.out e.symm))]; exact HCE.out
        by_cases hl2 : kk < pl.length
        · have hl2' : (kk : Int) < (pl.length : Int) := by omega
          have hlen : (List.replicate kk m ++ pl.drop kk).length = pl.length := by simp; omega
          have HQ' : Hid (OI wr B (.slice a (List.replicate kk m ++ pl.drop kk).length c) (List.replicate kk m ++ pl.drop kk)) := by rw [hlen]; exact HQ.out
          obtain ⟨b, c', hv', hc1, hc2⟩ := HQ'.out.some (by rw [hlen]; omega)
          simp only [Value.slice.injEq] at hv'
          obtain ⟨rfl, -, rfl⟩ := hv'
          obtain ⟨d0, df⟩ := HQ'.out.cellAt (j := kk) (by rw [hlen]; omega)
          have hs := HQ'.out.setAt (j := kk) m
          rw [set_mid m pl kk hl2, hlen] at hs
          have HS := hide hs
          have hmw : -10 - (k : Int) = m := HM.out.symm
          have hm0 : -200 ≤ m := by rw [HM.out]; omega
          have hm1 : m < 0 := by rw [HM.out]; omega
          have HGN : Hid (W5.grownBy (wr.setCell ⟨b, kk, none⟩ (.int .i64 m)) (Value.slice (some ⟨b, 0, none⟩) pl.length c).ownBlock) := HG.out.trans (grownBy_set rfl)
          clear hs hlen HQ HG HQ' hcell
          go_wp2
          go_roundw
          case rel => exact ⟨kk + 1, by go_num, by omega, HS.out, HGN.out⟩
          case measure => simp [intOf]; omega
        · have hl2' : ¬ (kk : Int) < (pl.length : Int) := by omega
          have HO3 : Hid (∀ (j : Nat) (p : Value × List Int), ls[j]? = some p → OI wr B p.1 (if j < k + 1 then mkj p j else p.2)) := by
            intro j q hq
            by_cases ej : j = k
            · subst ej
              have e := HP.out.symm.trans hq
              simp only [Option.some.injEq] at e
              subst e
              rw [if_pos (by omega)]
              have h := HQ.out
              rw [List.drop_eq_nil_of_le (by omega), List.append_nil, show kk = pl.length by omega, HM.out] at h
              exact h
            · have hq2 := HO.out j q hq
              have e : (if j < k + 1 then mkj q j else q.2) = (if j < k then mkj q j else q.2) := by
                by_cases hj : j < k
                · rw [if_pos hj, if_pos (by omega)]
                · rw [if_neg hj, if_neg (by omega)]
              rw [e]
              exact hq2.move fun b hb => HG.out.block b (hq2.lt b hb).2 (fun e2 => HL.out.sep j k q _ hq HP.out ej b hb e2.symm)
          have HK3 := hide (HK.out.trans (Keep.grown (List.mem_of_getElem? HP.out) HG.out))
          clear hcell
          go_wp2
          go_roundw
          case rel => exact ⟨k + 1, by go_num, by omega, HO3.out, HK3.out⟩
          case measure => simp [intOf]; omega
    case neg =>
      have hlt' : ¬ (k : Int) < (ls.length : Int) := by omega
      have HF : Hid (∀ (j : Nat) (p : Value × List Int), ls[j]? = some p → (0 ≤ j → OI wr B p.1 (mkj p j)) ∧ SI wr p.1 (mkj p j)) := by
        intro j p hp
        have h := HO.out j p hp
        rw [if_pos (by have := (List.getElem?_eq_some_iff.1 hp).1; omega)] at h
        exact ⟨fun _ => h, h.sb⟩
      clear HO
      obtain ⟨W0, hW0⟩ : ∃ W0, W0 = wr := ⟨_, rfl⟩
      subst hW0
      obtain ⟨i8, hi8, hz80, hz81, hz82⟩ := info_parts infoRow
      have HI8 := hide hi8
      have HZ80 := hide hz80
      have HZ81 := hide hz81
      have HZ82 := hide hz82
      have HW0 := hide HK.out.size
      have HOld : Hid (∀ (j : Nat) (p : Value × List Int), ls[j]? = some p → ∀ b, p.1.ownBlock = some b → b < W0.heap.size) := fun j p hp b hb => Nat.lt_of_lt_of_le (HL.out.lt hp b hb) HW0.out
      clear hi8 hz80 hz81 hz82
      go_wp2
      clear hlt hlt' hk
      go_loopw [5, 6] (fun mo i wq => ∃ (k : Nat) (am : Option Addr) (cm : Nat) (ms : List Value), mo = .slice am k cm ∧ i = .int .i64 k ∧ k ≤ ls.length ∧ Hid (∀ (j : Nat) (p : Value × List Int), ls[j]? = some p → (k ≤ j → OI wq B p.1 (mkj p j)) ∧ SI wq p.1 (mkj p j)) ∧ Hid (Keep ls w wq) ∧ Hid (wq.ownsRow W0.heap.size 22 1 (.slice am k cm) k ms ∧ Longer wq W0.heap.size (Value.slice am k cm).ownBlock ls ms) ∧ Hid (W0.heap.size ≤ wq.heap.size)) (fun _ i _ => ls.length - (intOf i).toNat)
      case atStart => exact ⟨0, none, 0, [], rfl, rfl, Nat.zero_le _, HF.out, HK.out, ⟨World.ownsRow_nil _ _ _ _, fun j p _ hj => absurd hj (Nat.not_lt_zero _)⟩, Nat.le_refl _⟩
      case round =>
        clear HF HK
        obtain ⟨k, am, cm, ms, rfl, rfl, hk, HF, HK, HMs, HWs⟩ := hrel
        by_cases hlt : k < ls.length
        case pos =>
          have hlt' : (k : Int) < (ls.length : Int) := by omega
          obtain ⟨p, hp⟩ : ∃ p, ls[k]? = some p := ⟨ls[k], by simp [hlt]⟩
          have hob := (HF.out k p hp).1 (Nat.le_refl _)
          have hcell := HL.out.cell HK.out hp
          have hpl := HL.out.len p (List.mem_of_getElem? hp)
          have HP := hide hp
          obtain rfl := HAR.out (fun e => by rw [e] at hlt; exact absurd hlt (Nat.not_lt_zero _))
          obtain ⟨pv, pl⟩ := p
          obtain ⟨l, hl⟩ : ∃ l, l = mkj (pv, pl) k := ⟨_, rfl⟩
          have HLL := hide hl
          have HLe : Hid (l.length = pl.length) := by show _ = _; rw [hl]; simp [mkj]
          have HLN : Hid (l.length ≤ 10000000000000) := by show _ ≤ _; rw [HLe.out]; exact hpl
          rw [← hl] at hob
          obtain ⟨a, c, hv⟩ := hob.shape
          simp only [] at hv hob hcell hpl
          have HVV : Hid (Value.slice a l.length c = pv) := hv.symm
          rw [hv] at hob hcell
          have HOB := hide hob
          have hcc : l.length ≤ c ∧ c ≤ 9223372036854775807 := by
            obtain ⟨a9, c9, h9, h8, h7, _⟩ := hob.sb
            simp only [Value.slice.injEq] at h9
            obtain ⟨-, -, rfl⟩ := h9
            unfold maxLen at h7
            exact ⟨h8, h7⟩
          clear hob hp hl
          obtain ⟨m, HM⟩ : ∃ m : Int, Hid (m = -50 - (k : Int)) := ⟨_, rfl⟩
          have hmw : -50 - (k : Int) = m := HM.out.symm
          clear hv
          obtain ⟨W5, hW5⟩ : ∃ W5, W5 = wr := ⟨_, rfl⟩
          subst hW5
          have HO6 : Hid (OI W5 B (.slice a (l.length + 0) c) (l ++ List.replicate 0 m)) := by show OI _ _ _ _; simpa using HOB.out
          go_wp2
          go_loopw [7, 8] (fun mo i wq => ∃ (i' : Nat) (a' : Option Addr) (c' : Nat), mo = .slice a' (l.length + i') c' ∧ i = .int .i64 i' ∧ i' ≤ 64 ∧ Hid (OI wq B (.slice a' (l.length + i') c') (l ++ List.replicate i' m)) ∧ Hid (SI wq (.slice a l.length c) l) ∧ Hid ((Value.slice a' (l.length + i') c').ownBlock = (Value.slice a l.length c).ownBlock ∨ ∀ b, (Value.slice a' (l.length + i') c').ownBlock = some b → W5.heap.size ≤ b) ∧ Hid (W5.grownBy wq (Value.slice a l.length c).ownBlock)) (fun _ i _ => 64 - (intOf i).toNat)
          case atStart => exact ⟨0, a, c, rfl, rfl, by omega, HO6.out, HOB.out.sb, .inl rfl, World.grownBy.refl _ _⟩
          case round =>
            clear HO6 hcell
            obtain ⟨i', am', cm', rfl, rfl, hi', HM2, HSB, HLOC, HG⟩ := hrel
            by_cases hlt9 : i' < 64
            · have hlt9' : (i' : Int) < 64 := by omega
              obtain ⟨L2, hL2⟩ : ∃ L2, L2 = l ++ List.replicate i' m := ⟨_, rfl⟩
              have HL2 := hide hL2
              clear hL2
              have HHle : Hid (L2.length = l.length + i') := by show _ = _; rw [HL2.out]; simp
              have HM' : Hid (OI wr B (.slice am' L2.length cm') L2) := by rw [HHle.out, HL2.out]; exact HM2.out
              have HLNN : Hid (L2.length + [m].length ≤ 17592186044416) := by show _ ≤ _; rw [HHle.out]; have := HLN.out; simp; omega
              have HBS2 : Hid (B ≤ wr.heap.size + 1) := by show _ ≤ _; have := HL.out.base; have := HK.out.size; have := HG.out.size; omega
              have HLOC' : Hid ((Value.slice am' L2.length cm').ownBlock = (Value.slice a l.length c).ownBlock ∨ ∀ b, (Value.slice am' L2.length cm').ownBlock = some b → W5.heap.size ≤ b) := by rw [HHle.out]; exact HLOC.out
              rw [← HHle.out]
              clear HM2 HLOC
              go_wp2_with (at_builtin; refine wpList_appI rfl _ _ 22 rfl B _ _ L2 [m] rfl (HM'.out.alloc _) rfl (built_srcI wr [m]) HLNN.out (by rw [size_alloc']; exact HBS2.out) ?_)
              intro v' w7 hown hgrew
              have hob7 : OI w7 B v' (l ++ List.replicate (i' + 1) m) := by
                have e : l ++ List.replicate (i' + 1) m = L2 ++ [m] := by rw [HL2.out, List.replicate_succ']; simp
                rw [e]
                exact hown
              have hst7 := own_step HOB.out HSB.out HLOC'.out HG.out hob7 hgrew
              obtain ⟨a7, c7, hv7⟩ := hob7.shape
              have e7 : (l ++ List.replicate (i' + 1) m).length = l.length + (i' + 1) := by simp
              rw [e7] at hv7
              have HST := hide hst7
              have HO7 := hide hob7
              clear hown hgrew hob7 e7 hst7
              rw [hv7] at HST HO7 ⊢
              clear hv7
              go_wp2
              go_roundw
              case rel => exact ⟨i' + 1, a7, c7, rfl, by go_num, by omega, HO7.out, HST.out.1, HST.out.2.1, HST.out.2.2⟩
              case measure => simp [intOf]; omega
            · have hlt9' : ¬ (i' : Int) < 64 := by omega
              obtain rfl : i' = 64 := by omega
              have HRow : Hid (wr.ownsRow W0.heap.size 22 1 (.slice am k cm) k ms) := ownsRow_move HMs.out.1 fun b hb => HG.out.block b (World.ownsRow.lt HMs.out.1 b hb).2 (fun e2 => by
                have h1 := (World.ownsRow.lt HMs.out.1 b hb).1
                have h2 := HOld.out k _ HP.out b (by rw [← HVV.out]; exact e2.symm)
                omega)
              have HN1 : Hid (k + 1 ≤ maxLen) := by show _ ≤ _; unfold maxLen; omega
              have HN2 : Hid ((k + 1) * 24 ≤ 140737488355328) := by show _ ≤ _; omega
              have HN3 : Hid (W0.heap.size ≤ wr.heap.size + 1) := by show _ ≤ _; have := HWs.out; have := HG.out.size; omega
              go_wp2_with (at_builtin; go_must (refine wpList_append_own_at _ rfl _ _ 49 rfl W0.heap.size 22 i8 (.slice none 0 0) 1 24 Tryd.underlying49 HI8.out HZ80.out HZ81.out HZ82.out rfl (by decide) _ _ _ rfl (ownsRow_alloc HRow.out _) ⟨wr.heap.size, 0, none⟩ 1 1 [.slice am' (l.length + 64) cm'] rfl rfl (cell_one_new _ _ _) (fun u hu => by rw [List.mem_singleton.1 hu]; rfl) HN1.out HN2.out (by rw [size_alloc']; exact HN3.out) ?_))
              intro v8 w8 hown8 hgrow8 _ hloc8
              have hks : W0.heap.size ≤ wr.heap.size := by have := HWs.out; have := HG.out.size; omega
              have HKp : Hid (∀ b, b < W0.heap.size → w8.heap[b]? = wr.heap[b]?) := fun b hb => (hgrow8.block b (by rw [size_alloc']; omega) (fun e2 => by have := (World.ownsRow.lt HRow.out b e2.symm).1; omega)).trans (Below.heap_alloc _ _ b (by omega))
              have HKn : Hid (∀ b, b < wr.heap.size → (Value.slice am k cm).ownBlock ≠ some b → w8.heap[b]? = wr.heap[b]? ∧ v8.ownBlock ≠ some b ∧ b < w8.heap.size) := fun b hb hn => ⟨(hgrow8.block b (by rw [size_alloc']; omega) (fun e2 => hn e2.symm)).trans (Below.heap_alloc _ _ b hb), fun e2 => by
                rcases hloc8 with e3 | e3
                · exact hn (e3.symm.trans e2)
                · rw [e3] at e2
                  have := Option.some.inj e2
                  omega, by have := hgrow8.size; rw [size_alloc'] at this; omega⟩
              have HF8 : Hid (∀ (j : Nat) (p : Value × List Int), ls[j]? = some p → (k + 1 ≤ j → OI w8 B p.1 (mkj p j)) ∧ SI w8 p.1 (mkj p j)) := by
                intro j q hq
                by_cases ej : j = k
                · subst ej
                  have e := HP.out.symm.trans hq
                  simp only [Option.some.injEq] at e
                  subst e
                  rw [← HLL.out]
                  exact ⟨fun h => by omega, by show SI w8 pv l; rw [← HVV.out]; exact HSB.out.same fun b hb => HKp.out b (HOld.out _ _ HP.out b (by rw [← HVV.out]; exact hb))⟩
                · have hq2 := HF.out j q hq
                  have hkeep : ∀ b, q.1.ownBlock = some b → w8.heap[b]? = W5.heap[b]? := fun b hb => (HKp.out b (HOld.out j q hq b hb)).trans (HG.out.block b (Nat.lt_of_lt_of_le (HOld.out j q hq b hb) HWs.out) (fun e2 => HL.out.sep j k q _ hq HP.out ej b hb (by rw [← HVV.out]; exact e2.symm)))
                  exact ⟨fun h => (hq2.1 (by omega)).move hkeep, hq2.2.same hkeep⟩
              have HK8 : Hid (Keep ls w w8) := by
                have h1 := HK.out.trans (Keep.grown (List.mem_of_getElem? HP.out) (by rw [← HVV.out]; exact HG.out))
                exact ⟨hgrow8.os.trans h1.os, hgrow8.tape.trans h1.tape, hgrow8.output.trans h1.output, by have := hgrow8.size; rw [size_alloc'] at this; have := h1.size; omega, fun b hb hn => (HKp.out b (Nat.lt_of_lt_of_le hb HW0.out)).trans (h1.block b hb hn)⟩
              have HMl : Hid (ms.length = k) := by have h := HRow.out.1; show _ = _; omega
              have HM8 : Hid (w8.ownsRow W0.heap.size 22 1 v8 (k + 1) (ms ++ [Value.slice am' (l.length + 64) cm']) ∧ Longer w8 W0.heap.size v8.ownBlock ls (ms ++ [Value.slice am' (l.length + 64) cm'])) := by
                refine ⟨hown8, fun j q hq hj => ?_⟩
                by_cases ej : j < ms.length
                · obtain ⟨x, hx, hsx, hbx⟩ := HMs.out.2 j q hq ej
                  have hjk : j ≠ k := by have := HMl.out; omega
                  have key : ∀ b, x.ownBlock = some b → w8.heap[b]? = W5.heap[b]? ∧ v8.ownBlock ≠ some b ∧ b < w8.heap.size := fun b hb => by
                    obtain ⟨y1, y2, y3⟩ := hbx b hb
                    have hne : (Value.slice a l.length c).ownBlock ≠ some b := fun e2 => by
                      rcases y2 with y2 | y2
                      · exact HL.out.sep j k q _ hq HP.out hjk b y2 (by rw [← HVV.out]; exact e2)
                      · have := HOld.out k _ HP.out b (by rw [← HVV.out]; exact e2); omega
                    have hw := HG.out.block b y1 (fun e2 => hne e2.symm)
                    obtain ⟨z1, z2, z3⟩ := HKn.out b (Nat.lt_of_lt_of_le y1 HG.out.size) y3
                    exact ⟨z1.trans hw, z2, z3⟩
                  exact ⟨x, by rw [List.getElem?_append_left ej]; exact hx, hsx.same fun b hb => (key b hb).1, fun b hb => ⟨(key b hb).2.2, (hbx b hb).2.1, (key b hb).2.1⟩⟩
                · rw [List.length_append, List.length_singleton] at hj
                  have ek : j = k := by have := HMl.out; omega
                  subst ek
                  have e := HP.out.symm.trans hq
                  simp only [Option.some.injEq] at e
                  subst e
                  have hnr : ∀ b, (Value.slice am' (l.length + 64) cm').ownBlock = some b → (Value.slice am j cm).ownBlock ≠ some b := fun b hb e2 => by
                    have h1 := (World.ownsRow.lt HMs.out.1 b e2)
                    rcases HLOC.out with h2 | h2
                    · rw [hb] at h2; have := HOld.out j _ HP.out b (by rw [← HVV.out]; exact h2.symm); omega
                    · have := h2 b hb; omega
                  refine ⟨_, by rw [List.getElem?_append_right (by have := HMl.out; omega), show j - ms.length = 0 by have := HMl.out; omega]; rfl, ?_, fun b hb => ?_⟩
                  · have hs := HM2.out.sb
                    unfold mkm
                    rw [← HLL.out, ← HM.out]
                    exact hs.same fun b hb => (HKn.out b (HM2.out.lt b hb).2 (hnr b hb)).1
                  · refine ⟨(HKn.out b (HM2.out.lt b hb).2 (hnr b hb)).2.2, ?_, (HKn.out b (HM2.out.lt b hb).2 (hnr b hb)).2.1⟩
                    rcases HLOC.out with h2 | h2
                    · left; rw [← HVV.out]; rw [hb] at h2; exact h2.symm
                    · right; have := h2 b hb; have := HWs.out; omega
              have HW8 : Hid (W0.heap.size ≤ w8.heap.size) := by show _ ≤ _; have := hgrow8.size; rw [size_alloc'] at this; omega
              have hsh : ∃ a8 c8, v8 = .slice a8 (k + 1) c8 := by
                rcases hown8.2 with ⟨_, h0⟩ | ⟨g8, c8, cur, hv, _⟩
                · omega
                · exact ⟨_, _, hv⟩
              obtain ⟨a8, c8, rfl⟩ := hsh
              clear hown8 hgrow8 hloc8
              go_wp2
              go_roundw
              case rel => exact ⟨k + 1, a8, c8, _, rfl, by go_num, by omega, HF8.out, HK8.out, HM8.out, HW8.out⟩
              case measure => simp [intOf]; omega
        case neg =>
          have hlt' : ¬ (k : Int) < (ls.length : Int) := by omega
          obtain rfl : k = ls.length := by omega
          have HF2 : Hid (∀ (j : Nat) (p : Value × List Int), ls[j]? = some p → SI wr p.1 (mkj p j)) := fun j p hp => (HF.out j p hp).2
          clear HF
          obtain ⟨Wf, hWf⟩ : ∃ Wf, Wf = wr := ⟨_, rfl⟩
          subst hWf
          have hcm : cm ≤ 9223372036854775807 := by
            rcases HMs.out.1.2 with ⟨hx, _⟩ | ⟨g8, c8, cur, hv, _, _, _, h4, _⟩
            · simp only [Value.slice.injEq] at hx; omega
            · simp only [Value.slice.injEq] at hv; unfold maxLen at h4; omega
          have HMm := hide HMs.out.2
          go_wp2
          go_loopw [9, 10] (fun i _ wq => ∃ k n : Nat, i = .int .i64 k ∧ k ≤ ls.length ∧ wq = Wf.drewN n) (fun i _ _ => ls.length - (intOf i).toNat)
          case atStart => exact ⟨0, 0, rfl, Nat.zero_le _, rfl⟩
          case round =>
            obtain ⟨k, n, rfl, hk, hw⟩ := hrel
            subst hw
            by_cases hlt : k < ls.length
            · have hlt' : (k : Int) < (ls.length : Int) := by omega
              obtain ⟨p, hp⟩ : ∃ p, ls[k]? = some p := ⟨ls[k], by simp [hlt]⟩
              have hsb := HF2.out k p hp
              have hcell := HL.out.cell HK.out hp
              have hpl := HL.out.len p (List.mem_of_getElem? hp)
              obtain rfl := HAR.out (fun e => by rw [e] at hlt; exact absurd hlt (Nat.not_lt_zero _))
              obtain ⟨vm, hxm, hsm, -⟩ := HMm.out k p hp (by have h := HMs.out.1.1; omega)
              obtain ⟨xm, ym, hvm⟩ := hsm.len
              subst hvm
              obtain ⟨gm, hgm, hmc⟩ : ∃ gm, am = some ⟨gm, 0, none⟩ ∧ Wf.cell? ⟨gm, k, none⟩ = some (.slice xm (mkm p k 64).length ym) := by
                rcases HMs.out.1.2 with ⟨_, h0⟩ | ⟨g8, c8, cur, hv, _⟩
                · omega
                · have hc := World.ownsRow.cells HMs.out.1 (g := g8) (by rw [hv]; rfl) k _ hxm
                  rw [Addr.add_lit] at hc
                  simp only [Value.slice.injEq] at hv
                  exact ⟨g8, hv.1, by simpa using hc⟩
              subst hgm
              obtain ⟨a, c, hv⟩ := (HL.out.ob k p hp).shape
              obtain ⟨pv, pl⟩ := p
              simp only [] at hv hsb hcell hpl
              subst hv
              have em : (mkm (Value.slice a pl.length c, pl) k 64).length = pl.length + 64 := by simp [mkm, mkj]
              rw [em] at hmc hsm
              have HSB := hide hsb
              have HSM := hide hsm
              obtain ⟨m, HM⟩ : ∃ m : Int, Hid (m = -10 - (k : Int)) := ⟨_, rfl⟩
              obtain ⟨mm, HMM⟩ : ∃ m : Int, Hid (m = -50 - (k : Int)) := ⟨_, rfl⟩
              have hmw : -10 - (k : Int) = m := HM.out.symm
              have hmw2 : -50 - (k : Int) = mm := HMM.out.symm
              have hym : pl.length + 64 ≤ ym ∧ ym ≤ 9223372036854775807 := by
                obtain ⟨a9, c9, h9, h8, h7, _⟩ := hsm
                rw [em] at h8
                simp only [Value.slice.injEq] at h9
                obtain ⟨-, -, rfl⟩ := h9
                unfold maxLen at h7
                exact ⟨h8, h7⟩
              have HCL : Hid (∀ i, i < pl.length → ∃ b o, a = some ⟨b, o, none⟩ ∧ Wf.cell? ⟨b, o + i, none⟩ = some (.int .i64 m)) := fun i hi => by
                have e9 : (mkj (Value.slice a pl.length c, pl) k).length = pl.length := by simp [mkj]
                have h1 : SI Wf (.slice a (mkj (Value.slice a pl.length c, pl) k).length c) (mkj (Value.slice a pl.length c, pl) k) := by rw [e9]; exact HSB.out
                obtain ⟨b, o, q1, q2⟩ := h1.get (Below.refl _ _) (k := i) (by rw [e9]; exact hi)
                refine ⟨b, o, q1, q2.trans ?_⟩
                simp [mkj, List.getD, hi, HM.out]
              have HCM : Hid (∀ i, i < pl.length + 64 → ∃ b o, xm = some ⟨b, o, none⟩ ∧ Wf.cell? ⟨b, o + i, none⟩ = some (.int .i64 (if i < pl.length then m else mm))) := fun i hi => by
                have h1 : SI Wf (.slice xm (mkm (Value.slice a pl.length c, pl) k 64).length ym) (mkm (Value.slice a pl.length c, pl) k 64) := by rw [em]; exact HSM.out
                obtain ⟨b, o, q1, q2⟩ := h1.get (Below.refl _ _) (k := i) (by rw [em]; exact hi)
                refine ⟨b, o, q1, q2.trans ?_⟩
                by_cases hc : i < pl.length
                · rw [if_pos hc]
                  simp [mkm, mkj, List.getD, hc, HM.out, List.getElem?_append_left]
                · rw [if_neg hc]
                  have e9 : (mkj (Value.slice a pl.length c, pl) k).length = pl.length := by simp [mkj]
                  unfold mkm
                  simp only [List.getD]
                  rw [List.getElem?_append_right (by rw [e9]; omega), e9, List.getElem?_replicate, if_pos (by omega), HMM.out]
                  rfl
              obtain ⟨gx, ox, hxm2⟩ : ∃ b o, xm = some ⟨b, o, none⟩ := by obtain ⟨b, o, q, _⟩ := HCM.out 0 (by omega); exact ⟨b, o, q⟩
              subst hxm2
              have hcc : pl.length ≤ c ∧ c ≤ 9223372036854775807 := by
                obtain ⟨a9, c9, h9, h8, h7, _⟩ := (HL.out.ob k _ hp).sb
                simp only [Value.slice.injEq] at h9
                obtain ⟨-, -, rfl⟩ := h9
                unfold maxLen at h7
                exact ⟨h8, h7⟩
              clear hp hsb hxm HSB hsm em HSM
              go_wp2
              go_loopw [10] (fun iv wq => ∃ i : Nat, iv = .int .i64 i ∧ i ≤ pl.length ∧ wq = Wf.drewN n) (fun iv _ => pl.length - (intOf iv).toNat)
              case atStart => exact ⟨0, rfl, Nat.zero_le _, by trivial⟩
              case round =>
                obtain ⟨i, rfl, hi, rfl⟩ := hrel
                by_cases hil : i < pl.length
                · have hil' : (i : Int) < (pl.length : Int) := by omega
                  obtain ⟨b9, o9, h9, y0⟩ := HCL.out i hil
                  subst h9
                  have k5 : (m != m) = false := by simp
                  go_wp2
                  go_roundw
                  case rel => exact ⟨i + 1, by go_num, by omega, by trivial⟩
                  case measure => simp [intOf]; omega
                · have hil' : ¬ (i : Int) < (pl.length : Int) := by omega
                  obtain ⟨b9, o9, h9, y1⟩ := HCM.out pl.length (by omega)
                  simp only [Option.some.injEq, Addr.mk.injEq] at h9
                  obtain ⟨rfl, rfl, -⟩ := h9
                  rw [if_neg (by omega)] at y1
                  have k5 : (mm != mm) = false := by simp
                  have k6 : (pl.length : Int) < (pl.length : Int) + 64 := by omega
                  have k7 : (pl.length : Int) < ((pl.length + 64 : Nat) : Int) := by omega
                  go_wp2
                  go_quiet (fail)
                  go_wp2
                  go_roundw
                  case rel => exact ⟨k + 1, _, by go_num, by omega, rfl⟩
                  case measure => simp [intOf]; omega
            · have hlt' : ¬ (k : Int) < (ls.length : Int) := by omega
              go_wp2
              go_ret
              refine ⟨rfl, ?_⟩
              have h := HK.out
              exact ⟨h.os, h.tape, h.output, h.size, h.block⟩

end Go.Proofs.YtegoienjikjhkaaDoor

