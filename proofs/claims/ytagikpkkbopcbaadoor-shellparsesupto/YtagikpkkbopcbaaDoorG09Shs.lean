import Derived.Test.YtagikpkkbopcbaaDoorG08Shr
import Derived.BigQuiet
import Derived.Deep.QuietTactic
namespace Go.Proofs.YtagikpkkbopcbaaDoor
open Go.RowKit Go.Maps
set_option maxRecDepth 20000
set_option linter.unusedVariables false
set_option linter.unusedSimpArgs false

theorem built_src (w : World) (cs : List Int) : Src Tryd.prog 1 30 (.slice (some ⟨w.heap.size, 0, none⟩) cs.length cs.length) cs.length (cs.map (Value.int .u8)) (w.alloc (.cells (cs.map (Value.int .u8)).toArray 5)) := by
  refine Src.ofSlice _ Tryd.underlying30 _ _ _ _ (by simp) (fun j u hj => ?_) (fun u hu => by obtain ⟨n, _, rfl⟩ := List.mem_map.1 hu; rfl)
  have e := heap_alloc_new w (.cells (cs.map (Value.int .u8)).toArray 5)
  rw [Addr.add_lit]
  unfold World.cell?
  simp only [e, Nat.zero_add]
  simpa using hj

theorem Grew.by {w w' : World} {v v' : Value} (h : Grew w w' v v') : w.grownBy w' v.ownBlock := by
  rcases h with ⟨_, rfl⟩ | ⟨_, hb⟩ | ⟨_, _, hg⟩
  · exact World.grownBy.refl _ _
  · exact ⟨hb.os, hb.tape, hb.output, hb.size, fun k hk _ => hb.block k hk⟩
  · exact hg

theorem sb_convert {w : World} {v : Value} {l : List Int} (h : SB w v l) : (convert 30 9 v).run Tryd.prog w = .ok (.string (strOfNums l)) w := by
  obtain ⟨ao, cap, rfl, h1, h2, h3, h4⟩ := h
  cases ao with
  | none =>
    have h0 := h3 rfl
    have hl : l = [] := List.eq_nil_of_length_eq_zero (by omega)
    subst hl
    exact run_convert_bytes_nil (P := Tryd.prog) w 30 5 Tryd.underlying30 Tryd.underlying5 0 cap 9 Tryd.underlying9
  | some a =>
    by_cases hl : l = []
    · subst hl
      have h0 : (loadCells a 0).run Tryd.prog w = .ok (([] : List Int).map (Value.int .u8)).toArray w := by
        have := run_loadCells_list (P := Tryd.prog) w a [] (fun j v hj => by simp at hj)
        simpa using this
      show (convert 30 9 (.slice (some a) 0 cap)).run Tryd.prog w = _
      rw [run_convert_bytes_string w 30 9 5 _ 0 cap Tryd.underlying30 Tryd.underlying5 Tryd.underlying9, run_bytesToString w a 0 cap [] h0]
      rfl
    · have hp : 0 < l.length := List.length_pos_iff.2 hl
      obtain ⟨b, o, rfl⟩ := addr_lit (h4 a rfl 0 hp)
      exact run_convert_bytes_arg (P := Tryd.prog) w 30 5 Tryd.underlying30 Tryd.underlying5 b o l.length cap l rfl (fun i hi => by
        have := h4 _ rfl i hi
        rwa [Addr.add_lit] at this) 9 Tryd.underlying9

def Qans (t : ByteArray) (r : Option (List Int × Nat)) (e : Ending) : Prop :=
  (r = none ∧ e = .returned (.tuple #[.string ⟨#[]⟩, .int .i64 0])) ∨ (∃ v k, r = some (v, k) ∧ ((alone t k ∧ e = .returned (.tuple #[.string (strOfNums v), .int .i64 (k : Int)])) ∨ (¬ alone t k ∧ e = .returned (.tuple #[.string (strOfNums v), .int .i64 0]))))

set_option maxHeartbeats 8000000 in
theorem quotedWord_any (t : ByteArray) (w : World) (h0 : 0 < t.size) (hs : t.size ≤ 1048576) (h : Esy w) : Calls Tryd.prog 10 #[.string t] w fun e w' => (∃ r, Qt t 1 [] r ∧ Qans t r e) ∧ Below w.heap.size w w' := by
  have HE := hide h
  clear h
  go_enter Tryd.func10, Tryd.ntmps10
  go_wp2
  go_loopw [4, 5] (fun v i wr => ∃ (a : Option Addr) (n cp : Nat) (l : List Int) (k : Nat), v = .slice a n cp ∧ i = .int .i64 (k : Int) ∧ k ≤ t.size ∧ 1 ≤ k ∧ Hid (n = l.length ∧ l.length ≤ k) ∧ Hid (OB wr w.heap.size (.slice a n cp) l) ∧ Hid (∀ r, Qt t k l r → Qt t 1 [] r) ∧ Hid (Below w.heap.size w wr)) (fun _ i _ => t.size - (intOf i).toNat)
  case atStart => exact ⟨none, 0, 0, [], 1, rfl, rfl, by omega, by omega, ⟨rfl, by simp⟩, World.ownsRow_nil w _ _ _, fun r q => q, Below.refl _ _⟩
  case round =>
    obtain ⟨a, n, cp, l, k, rfl, rfl, hk, hk1, HLK, HO, HQ, HB⟩ := hrel
    by_cases c : k < t.size
    · have x := fun wx => run_ix t k c _ rfl wx
      obtain ⟨b, HBB⟩ : ∃ b, Hid (bI t k = b) := ⟨_, rfl⟩
      rw [HBB.out] at x
      by_cases d : b = 34
      · have HQ1 : Hid (Qt t 1 [] (some (l, k + 1))) := HQ.out _ (.quote c (by rw [HBB.out]; exact d))
        subst d
        have hcv : ∀ m, (convert 30 9 (.slice a n cp)).run Tryd.prog (wr.drewN m) = .ok (.string (strOfNums l)) (wr.drewN m) := fun n => sb_convert (HO.out.sb.below (below_drewN (Below.refl _ _) n))
        have HSA : Hid (∃ R : Int, ((alone t (k + 1) ∧ R = ((k + 1 : Nat) : Int)) ∨ (¬ alone t (k + 1) ∧ R = 0)) ∧ ∀ n, Calls Tryd.prog 13 #[.string t, .int .i64 ((k : Int) + 1)] (wr.drewN n) fun e w' => e = .returned (.int .i64 R) ∧ ∃ m, w' = wr.drewN m) := by
          by_cases q : alone t (k + 1)
          · refine ⟨_, .inl ⟨q, rfl⟩, fun n => (sizeAlone_any t (k + 1) (wr.drewN n) (by omega) hs _ (by omega)).mono ?_⟩
            rintro e w9 ⟨(⟨_, rfl⟩ | ⟨z, _⟩), rfl⟩
            · exact ⟨rfl, n, rfl⟩
            · exact absurd q z
          · refine ⟨_, .inr ⟨q, rfl⟩, fun n => (sizeAlone_any t (k + 1) (wr.drewN n) (by omega) hs _ (by omega)).mono ?_⟩
            rintro e w9 ⟨(⟨z, _⟩ | ⟨_, rfl⟩), rfl⟩
            · exact absurd z q
            · exact ⟨rfl, n, rfl⟩
        obtain ⟨R, hR, hC⟩ := HSA.out
        have HR := hide hR
        have HC := hide hC
        clear hR hC HSA HQ HBB
        go_wp2_with fail
        go_quiet (exact HC.out _)
        go_wp2
        go_ret2
        refine ⟨⟨_, HQ1.out, .inr ⟨l, k + 1, rfl, ?_⟩⟩, below_drewN HB.out _⟩
        rcases HR.out with ⟨q, rfl⟩ | ⟨q, rfl⟩
        · exact .inl ⟨q, rfl⟩
        · exact .inr ⟨q, rfl⟩
      · have d' : (b == 34) = false := by simpa using d
        have HLA := hide (letterAhead_any (sfx t k) wr (by rw [sfx_size]; omega) (by rw [sfx_size]; omega) (HE.out.below HB.out))
        rw [sfx_ltr t k 0 (by omega), Nat.add_zero] at HLA
        unfold sfx at HLA
        obtain ⟨l0, l1, l2⟩ := ltr_in t k c
        obtain ⟨C, N, HCN⟩ : ∃ C N, Hid (ltr t k = (C, N)) := ⟨_, _, rfl⟩
        rw [HCN.out] at HLA l0 l1 l2
        simp only at HLA l0 l1 l2
        by_cases z : N = 0
        · have HQ1 : Hid (Qt t 1 [] none) := HQ.out _ (.bad c (by rw [HBB.out]; exact d) (by rw [HCN.out]; exact z))
          subst z
          clear HQ HBB HCN
          go_wp2_with fail
          refine HLA.out.mono ?_
          rintro e w2 ⟨rfl, hb2⟩
          have HB2 := hide (HB.out.trans (hb2.mono HB.out.size))
          clear hb2 HLA
          go_wp2
          go_ret2
          exact ⟨⟨none, HQ1.out, .inl ⟨rfl, rfl⟩⟩, HB2.out⟩
        · have HQ1 : Hid (∀ r, Qt t (k + N) (l ++ [C]) r → Qt t 1 [] r) := fun r q => HQ.out r (.step c (by rw [HBB.out]; exact d) (by rw [HCN.out]; exact z) (by rw [HCN.out]; exact q))
          have z' : ((N : Int) == 0) = false := by simp; omega
          clear HQ HBB HCN
          go_wp2_with fail
          refine HLA.out.mono ?_
          rintro e w2 ⟨rfl, hb2⟩
          have HB2 := hide (HB.out.trans (hb2.mono HB.out.size))
          have HO2 := hide (HO.out.below hb2 (Nat.le_refl _))
          have HLT := hide (fun q hq => (OB.lt HO2.out q hq).1)
          have HSZ := hide hb2.size
          clear hb2 HLA HO HB
          go_wp2_with (at_builtin; refine wpList_app rfl _ _ 30 rfl w.heap.size _ _ l [C] rfl (HO2.out.alloc _) rfl (built_src w2 [C]) (by have := HLK.out; simp; omega) (by have := HB2.out.size; simp; omega) ?_)
          intro v3 w3 o3 g3
          obtain ⟨a3, c3, hv3⟩ := o3.shape
          have HO3 := hide o3
          rw [hv3, show (l ++ [C]).length = n + 1 by rw [HLK.out.1]; simp] at HO3
          rw [hv3, show (l ++ [C]).length = n + 1 by rw [HLK.out.1]; simp]
          have HB3 : Hid (Below w.heap.size w w3) := (HB2.out.alloc HB2.out.size _).grown g3.by (by have := HB2.out.size; simp; omega) (fun q hq => HLT.out q hq)
          clear o3 g3 HO2 HLT HB2 hv3
          go_wp2
          go_roundw
          case rel => exact ⟨a3, n + 1, c3, l ++ [C], k + N, rfl, by go_num, by omega, by omega, ⟨by rw [HLK.out.1]; simp, by have := HLK.out; simp; omega⟩, HO3, HQ1, HB3⟩
          case measure => simp [intOf]; omega
    · have c' : ¬ (k : Int) < (t.size : Int) := by omega
      have HQ1 : Hid (Qt t 1 [] none) := HQ.out _ (.ends (by omega))
      clear HQ
      go_wp2
      go_ret2
      exact ⟨⟨none, HQ1.out, .inl ⟨rfl, rfl⟩⟩, HB.out⟩
end Go.Proofs.YtagikpkkbopcbaaDoor

