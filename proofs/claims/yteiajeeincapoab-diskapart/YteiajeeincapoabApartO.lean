import Derived.Test.YteiajeeincapoabApartL
import Derived.Test.YteiajeeincapoabRuns
namespace Go.Proofs.Yteiajeeincapoab
open Go.RowKit Go.Maps

structure Keep (ls : List (Value × List Int)) (w w' : World) : Prop where
  os : w'.os = w.os
  tape : w'.tape = w.tape
  output : w'.output = w.output
  size : w.heap.size ≤ w'.heap.size
  block : ∀ k, k < w.heap.size → (∀ p ∈ ls, p.1.ownBlock ≠ some k) → w'.heap[k]? = w.heap[k]?

theorem Keep.refl (ls : List (Value × List Int)) (w : World) : Keep ls w w := ⟨rfl, rfl, rfl, Nat.le_refl _, fun _ _ _ => rfl⟩

theorem Keep.trans {ls : List (Value × List Int)} {a b c : World} (h : Keep ls a b) (k : Keep ls b c) : Keep ls a c :=
  ⟨k.os.trans h.os, k.tape.trans h.tape, k.output.trans h.output, Nat.le_trans h.size k.size, fun i hi hn => (k.block i (Nat.lt_of_lt_of_le hi h.size) hn).trans (h.block i hi hn)⟩

theorem Keep.grown {ls : List (Value × List Int)} {w w' : World} {p : Value × List Int} (hp : p ∈ ls) (h : w.grownBy w' p.1.ownBlock) : Keep ls w w' :=
  ⟨h.os, h.tape, h.output, h.size, fun k hk hn => h.block k hk (fun e => hn p hp e.symm)⟩

structure Lists (w : World) (B : Nat) (ls : List (Value × List Int)) (gR : Nat) : Prop where
  ob : ∀ (j : Nat) (p : Value × List Int), ls[j]? = some p → OB w B p.1 p.2
  sep : ∀ (i j : Nat) (p q : Value × List Int), ls[i]? = some p → ls[j]? = some q → i ≠ j → ∀ k, p.1.ownBlock = some k → q.1.ownBlock ≠ some k
  row : w.heap[gR]? = some (.cells (ls.map (·.1)).toArray 22 (0, 0))
  apart : ∀ p ∈ ls, p.1.ownBlock ≠ some gR
  few : ls.length ≤ 100
  len : ∀ p ∈ ls, p.2.length ≤ 16777216
  base : B ≤ w.heap.size

def mk10 (p : Value × List Int) (j : Nat) : List Int := List.replicate p.2.length (10 + (j : Int))

theorem Lists.cell {w wr : World} {B : Nat} {ls : List (Value × List Int)} {gR : Nat} (h : Lists w B ls gR) (hk : Keep ls w wr) {k : Nat} {p : Value × List Int} (hp : ls[k]? = some p) : wr.cell? ⟨gR, k, none⟩ = some p.1 := by
  have hlt : gR < w.heap.size := (Array.getElem?_eq_some_iff.1 h.row).1
  rw [cell_at ((hk.block gR hlt h.apart).trans h.row)]
  simp [hp]

theorem Lists.lt {w : World} {B : Nat} {ls : List (Value × List Int)} {gR : Nat} (h : Lists w B ls gR) {j : Nat} {p : Value × List Int} (hp : ls[j]? = some p) : ∀ k, p.1.ownBlock = some k → k < w.heap.size := fun k hk => ((h.ob j p hp).lt k hk).2

theorem OB.prefix {w w' : World} {B B' n c : Nat} {a : Option Addr} {v' : Value} {l r : List Int} (h : OB w B (.slice a n c) l) (h' : OB w' B' v' (l ++ r)) (he : v'.ownBlock = (Value.slice a n c).ownBlock) : SB w' (.slice a n c) l := by
  obtain ⟨ao, cap, hv, h1, h2, h3, h4⟩ := h.sb
  simp only [Value.slice.injEq] at hv
  obtain ⟨rfl, rfl, rfl⟩ := hv
  refine ⟨a, c, rfl, h1, h2, h3, fun x hx i hi => ?_⟩
  subst hx
  rcases h.2 with ⟨hn, _⟩ | ⟨g, cap, cur, hn, _⟩
  · simp at hn
  · simp only [Value.slice.injEq, Option.some.injEq] at hn
    obtain ⟨rfl, -, -⟩ := hn
    rcases h'.2 with ⟨hn', _⟩ | ⟨g', cap', cur', hn', _⟩
    · rw [hn'] at he
      simp [Value.ownBlock] at he
    · rw [hn'] at he
      simp only [Value.ownBlock, Option.some.injEq] at he
      subst he
      have hc := @World.ownsRow.cells _ _ _ _ _ _ _ h' (g := g') (by rw [hn']; rfl) i (.int .u8 (l.getD i 0)) (by rw [List.map_append, List.getElem?_append_left (by simpa using hi)]; simp [hi, List.getD])
      exact hc


theorem own_step {W5 wr w6 : World} {B c : Nat} {a : Option Addr} {vm v' : Value} {l r : List Int} {O : Obj} (hob : OB W5 B (.slice a l.length c) l) (hsb : SB wr (.slice a l.length c) l)
    (hloc : vm.ownBlock = (Value.slice a l.length c).ownBlock ∨ ∀ b, vm.ownBlock = some b → W5.heap.size ≤ b) (hg : W5.grownBy wr (Value.slice a l.length c).ownBlock) (hob6 : OB w6 B v' (l ++ r)) (hgrew : Grew (wr.alloc O) w6 vm v') :
    SB w6 (.slice a l.length c) l ∧ (v'.ownBlock = (Value.slice a l.length c).ownBlock ∨ ∀ b, v'.ownBlock = some b → W5.heap.size ≤ b) ∧ W5.grownBy w6 (Value.slice a l.length c).ownBlock := by
  have hs1 := hg.size
  have hlt := hob.lt
  rcases hgrew with ⟨hb, hbel⟩ | ⟨hb, hgr⟩
  · have hs2 := hbel.size
    rw [size_alloc'] at hs2 hb
    refine ⟨(hsb.alloc' _).below hbel, .inr fun b hb' => ?_, ⟨hbel.os.trans hg.os, hbel.tape.trans hg.tape, hbel.output.trans hg.output, by omega, fun k hk hne => ?_⟩⟩
    · rw [hb] at hb'
      simp at hb'
      omega
    · rw [hbel.block k (by rw [size_alloc']; omega), Below.heap_alloc _ _ k (by omega)]
      exact hg.block k hk hne
  · have hs2 := hgr.size
    rw [size_alloc'] at hs2
    rcases hloc with e | e
    · refine ⟨hob.prefix hob6 (hb.trans e), .inl (hb.trans e), ⟨hgr.os.trans hg.os, hgr.tape.trans hg.tape, hgr.output.trans hg.output, by omega, fun k hk hne => ?_⟩⟩
      rw [hgr.block k (by rw [size_alloc']; omega) (by rw [e]; exact hne), Below.heap_alloc _ _ k (by omega)]
      exact hg.block k hk hne
    · refine ⟨(hsb.alloc' _).same fun k hk => hgr.block k (by rw [size_alloc']; have := (hlt k hk).2; omega) (fun e2 => by have := e k e2.symm; have := (hlt k hk).2; omega), .inr fun b hb' => e b (hb.symm.trans hb'), ⟨hgr.os.trans hg.os, hgr.tape.trans hg.tape, hgr.output.trans hg.output, by omega, fun k hk hne => ?_⟩⟩
      rw [hgr.block k (by rw [size_alloc']; omega) (fun e2 => by have := e k e2.symm; omega), Below.heap_alloc _ _ k (by omega)]
      exact hg.block k hk hne

set_option maxRecDepth 20000 in
set_option maxHeartbeats 2000000 in
theorem own_walk (w : World) (B gR : Nat) (ls : List (Value × List Int)) (h : Lists w B ls gR) :
    Calls Try.prog 27 #[.slice (some ⟨gR, 0, none⟩) ls.length ls.length] w fun e w' => e = .returned (.bool true) ∧ Keep ls w w' := by
  have HL := hide h
  have hfew := h.few
  obtain ⟨i0, hi, hz0, hz1, hz2⟩ := info_parts info5
  clear h
  go_enter Try.func27, Try.ntmps27
  go_wp2
  go_loopw [3] (fun i wr => ∃ k : Nat, i = .int .i64 k ∧ k ≤ ls.length ∧ Hid (∀ (j : Nat) (p : Value × List Int), ls[j]? = some p → OB wr B p.1 (if j < k then mk10 p j else p.2)) ∧ Hid (Keep ls w wr)) (fun i _ => ls.length - (intOf i).toNat)
  case atStart => exact ⟨0, rfl, Nat.zero_le _, (fun j p hp => by rw [if_neg (by omega)]; exact HL.out.ob j p hp), Keep.refl _ _⟩
  case round =>
    obtain ⟨k, rfl, hk, HO, HK⟩ := hrel
    by_cases hlt : k < ls.length
    case pos =>
      have hlt' : (k : Int) < (ls.length : Int) := by omega
      obtain ⟨p, hp⟩ : ∃ p, ls[k]? = some p := ⟨ls[k], by simp [hlt]⟩
      have hob := HO.out k p hp
      rw [if_neg (by omega)] at hob
      have hcell := HL.out.cell HK.out hp
      have hpl := HL.out.len p (List.mem_of_getElem? hp)
      have HP := hide hp
      obtain ⟨pv, pl⟩ := p
      obtain ⟨a, c, hv⟩ := hob.shape
      simp only [] at hv hob hcell hpl
      subst hv
      have HOB := hide hob
      clear hob hp
      go_wp2_with fail
      refine (mark_any _ pl (10 + (k : Int)) B _ HOB.out hpl).mono ?_
      rintro e w3 ⟨rfl, hob3, hgr3, _⟩
      have HO3 : Hid (∀ (j : Nat) (p : Value × List Int), ls[j]? = some p → OB w3 B p.1 (if j < k + 1 then mk10 p j else p.2)) := by
        intro j q hq
        by_cases ej : j = k
        · subst ej
          have e := HP.out.symm.trans hq
          simp only [Option.some.injEq] at e
          subst e
          rw [if_pos (by omega)]
          exact hob3
        · have hq2 := HO.out j q hq
          have e : (if j < k + 1 then mk10 q j else q.2) = (if j < k then mk10 q j else q.2) := by
            by_cases hj : j < k
            · rw [if_pos hj, if_pos (by omega)]
            · rw [if_neg hj, if_neg (by omega)]
          rw [e]
          exact hq2.move fun b hb => hgr3.block b (hq2.lt b hb).2 (fun e2 => HL.out.sep j k q _ hq HP.out ej b hb e2.symm)
      have HK3 := hide (HK.out.trans (Keep.grown (List.mem_of_getElem? HP.out) hgr3))
      clear hob3 hgr3 hcell
      go_wp2
      go_roundw
      case rel => exact ⟨k + 1, by go_num, by omega, HO3.out, HK3.out⟩
      case measure => simp [intOf]; omega
    case neg =>
      have hlt' : ¬ (k : Int) < (ls.length : Int) := by omega
      have HF : Hid (∀ (j : Nat) (p : Value × List Int), ls[j]? = some p → (0 ≤ j → OB wr B p.1 (mk10 p j)) ∧ SB wr p.1 (mk10 p j)) := by
        intro j p hp
        have h := HO.out j p hp
        rw [if_pos (by have := (List.getElem?_eq_some_iff.1 hp).1; omega)] at h
        exact ⟨fun _ => h, h.sb⟩
      clear HO
      go_wp2
      go_loopw [4] (fun i wq => ∃ k : Nat, i = .int .i64 k ∧ k ≤ ls.length ∧ Hid (∀ (j : Nat) (p : Value × List Int), ls[j]? = some p → (k ≤ j → OB wq B p.1 (mk10 p j)) ∧ SB wq p.1 (mk10 p j)) ∧ Hid (Keep ls w wq)) (fun i _ => ls.length - (intOf i).toNat)
      case atStart => exact ⟨0, rfl, Nat.zero_le _, HF.out, HK.out⟩
      case round =>
        clear HF HK hlt hlt' hk
        obtain ⟨k, rfl, hk, HF, HK⟩ := hrel
        by_cases hlt : k < ls.length
        case pos =>
          have hlt' : (k : Int) < (ls.length : Int) := by omega
          obtain ⟨p, hp⟩ : ∃ p, ls[k]? = some p := ⟨ls[k], by simp [hlt]⟩
          have hob := (HF.out k p hp).1 (Nat.le_refl _)
          have hcell := HL.out.cell HK.out hp
          have hpl := HL.out.len p (List.mem_of_getElem? hp)
          have HP := hide hp
          obtain ⟨pv, pl⟩ := p
          obtain ⟨l, hl⟩ : ∃ l, l = mk10 (pv, pl) k := ⟨_, rfl⟩
          have HLL := hide hl
          have HLN : Hid (l.length ≤ 16777216) := by show _ ≤ _; rw [hl]; simpa [mk10] using hpl
          rw [← hl] at hob
          obtain ⟨a, c, hv⟩ := hob.shape
          simp only [] at hv hob hcell hpl
          subst hv
          have HOB := hide hob
          have HBS : Hid (B ≤ wr.heap.size) := Nat.le_trans HL.out.base HK.out.size
          clear hob hp hl
          obtain ⟨W5, hW5⟩ : ∃ W5, W5 = wr := ⟨_, rfl⟩
          subst hW5
          go_wp2
          go_loopw [5, 6] (fun mo i wq => ∃ (i' : Nat) (am : Option Addr) (cm : Nat), mo = .slice am (l.length + i') cm ∧ i = .int .i64 i' ∧ i' ≤ 99 ∧ Hid (OB wq B (.slice am (l.length + i') cm) (l ++ List.replicate i' 200)) ∧ Hid (SB wq (.slice a l.length c) l) ∧ Hid ((Value.slice am (l.length + i') cm).ownBlock = (Value.slice a l.length c).ownBlock ∨ ∀ b, (Value.slice am (l.length + i') cm).ownBlock = some b → W5.heap.size ≤ b) ∧ Hid (W5.grownBy wq (Value.slice a l.length c).ownBlock)) (fun _ i _ => 99 - (intOf i).toNat)
          case atStart => exact ⟨0, a, c, rfl, rfl, by omega, by show OB _ _ _ _; simpa using HOB.out, HOB.out.sb, .inl rfl, World.grownBy.refl _ _⟩
          case round =>
            obtain ⟨i', am, cm, rfl, rfl, hi', HM, HSB, HLOC, HG⟩ := hrel
            by_cases hlt9 : i' < 99
            · have hlt9' : (i' : Int) < 99 := by omega
              have hln : (l ++ List.replicate i' 200).length + 1 ≤ 140737488355328 := by have := HLN.out; simp; omega
              have HLNN := hide hln
              have HBS2 : Hid (B ≤ wr.heap.size + 1) := by show _ ≤ _; have := HBS.out; have := HG.out.size; omega
              clear hln hcell
              go_wp2_with (at_builtin; refine wpList_append_byte rfl _ _ 22 rfl B 5 i0 Try.underlying22 hi hz0 hz1 hz2 _ _ _ rfl (HM.out.alloc _) ⟨wr.heap.size, 0, none⟩ 1 (.int .u8 200) rfl (cell_one_new _ _ _) rfl HLNN.out (by rw [size_alloc']; exact HBS2.out) ?_)
              intro v' w6 hown hgrew
              have hob6 : OB w6 B v' (l ++ List.replicate (i' + 1) 200) := by
                have e : l ++ List.replicate (i' + 1) 200 = (l ++ List.replicate i' 200) ++ [200] := by rw [List.replicate_succ', List.append_assoc]
                rw [e]
                show w6.ownsRow B 5 1 v' ((l ++ List.replicate i' 200) ++ [200]).length _
                simpa [Nat.add_assoc] using hown
              obtain ⟨a6, c6, hv6⟩ := hob6.shape
              have e6 : (l ++ List.replicate (i' + 1) (200 : Int)).length = l.length + (i' + 1) := by simp
              rw [e6] at hv6
              have HST := hide (own_step HOB.out HSB.out HLOC.out HG.out hob6 hgrew)
              have HO6 := hide hob6
              clear hown hgrew hob6 e6
              rw [hv6] at HST HO6 ⊢
              clear hv6
              go_wp2
              go_roundw
              case rel => exact ⟨i' + 1, a6, c6, rfl, by go_num, by omega, HO6.out, HST.out.1, HST.out.2.1, HST.out.2.2⟩
              case measure => simp [intOf]; omega
            · have hlt9' : ¬ (i' : Int) < 99 := by omega
              have HF6 : Hid (∀ (j : Nat) (p : Value × List Int), ls[j]? = some p → (k + 1 ≤ j → OB wr B p.1 (mk10 p j)) ∧ SB wr p.1 (mk10 p j)) := by
                intro j q hq
                by_cases ej : j = k
                · subst ej
                  have e := HP.out.symm.trans hq
                  simp only [Option.some.injEq] at e
                  subst e
                  rw [← HLL.out]
                  exact ⟨fun h => by omega, HSB.out⟩
                · have hq2 := HF.out j q hq
                  have hkeep : ∀ b, q.1.ownBlock = some b → wr.heap[b]? = W5.heap[b]? := fun b hb => HG.out.block b (Nat.lt_of_lt_of_le (HL.out.lt hq b hb) HK.out.size) (fun e2 => HL.out.sep j k q _ hq HP.out ej b hb e2.symm)
                  exact ⟨fun h => (hq2.1 (by omega)).move hkeep, hq2.2.same hkeep⟩
              have HK6 := hide (HK.out.trans (Keep.grown (List.mem_of_getElem? HP.out) HG.out))
              clear hcell
              go_wp2
              go_roundw
              case rel => exact ⟨k + 1, by go_num, by omega, HF6.out, HK6.out⟩
              case measure => simp [intOf]; omega
        case neg =>
          have hlt' : ¬ (k : Int) < (ls.length : Int) := by omega
          have HF2 : Hid (∀ (j : Nat) (p : Value × List Int), ls[j]? = some p → SB wr p.1 (mk10 p j)) := fun j p hp => (HF.out j p hp).2
          clear HF
          go_wp2
          go_loopw [7] (fun i wq => ∃ k : Nat, i = .int .i64 k ∧ k ≤ ls.length ∧ wq = wr) (fun i _ => ls.length - (intOf i).toNat)
          case atStart => exact ⟨0, rfl, Nat.zero_le _, rfl⟩
          case round =>
            clear hk hlt hlt'
            obtain ⟨k, rfl, hk, hw⟩ := hrel
            subst hw
            by_cases hlt : k < ls.length
            · have hlt' : (k : Int) < (ls.length : Int) := by omega
              obtain ⟨p, hp⟩ : ∃ p, ls[k]? = some p := ⟨ls[k], by simp [hlt]⟩
              have hsb := HF2.out k p hp
              have hcell := HL.out.cell HK.out hp
              have hpl := HL.out.len p (List.mem_of_getElem? hp)
              obtain ⟨a, c, hv⟩ := (HL.out.ob k p hp).shape
              obtain ⟨pv, pl⟩ := p
              simp only [] at hv hsb hcell hpl
              subst hv
              have HSB := hide hsb
              clear hp hsb
              go_wp2_with fail
              refine (marked_any _ pl.length (10 + (k : Int)) _ HSB.out hpl).mono ?_
              rintro e w6 ⟨rfl, rfl⟩
              go_wp2
              go_roundw
              case rel => exact ⟨k + 1, by go_num, by omega, trivial⟩
              case measure => simp [intOf]; omega
            · have hlt' : ¬ (k : Int) < (ls.length : Int) := by omega
              go_wp2
              go_ret
              exact ⟨rfl, HK.out⟩
end Go.Proofs.Yteiajeeincapoab
