import Derived.Test.YtmbgjkghcpkoiaaGSps
import Derived.Deep.RegionHeld3
namespace Go.Proofs.Ytmbgjkghcpkoiaa
open Go.RowKit Go.Maps
set_option maxRecDepth 20000
set_option linter.unusedVariables false
set_option linter.unusedSimpArgs false

theorem infoI13 : (Try.prog.info? 3).map (fun i => (i.zero, i.size, i.bytes)) = some (some (.int .i64 0), 1, 8) := by kernel_rfl

def kC (x : Int) : Array Value := #[.int .i64 x]

def eS (e : Ent) : Int × Int := (e.frm, e.til)

theorem flat_k : ∀ l : List Int, flat (l.map kC) = l.map (Value.int .i64)
  | [] => rfl
  | a :: l => by rw [List.map_cons, flat_cons, flat_k l]; rfl

theorem or_oi {w : World} {base : Nat} {v : Value} {l : List Int} (h : OR 3 1 w base v (l.map kC)) : H4.OI w base v l := by
  have h2 := h.2
  rw [List.length_map, flat_k] at h2
  exact h2

theorem OR.grown {T n : Nat} {w w' : World} {base : Nat} {v : Value} {R : List (Array Value)} {row : Option Nat} (h : OR T n w base v R) (hg : w.grownBy w' row) (hne : ∀ k, v.ownBlock = some k → row ≠ some k) : OR T n w' base v R :=
  h.move fun k hk => hg.block k (h.lt k hk).2 (fun e => hne k hk e.symm)

theorem undrew {w w' : World} {r : Option Nat} (h : w.drew.grownBy w' r) : w.grownBy w' r := ⟨h.os, h.tape, h.output, h.size, h.block⟩

theorem srLt {n : Nat} {w : World} {ao : Option Addr} {len cap : Nat} {cs : List (Array Value)} (h : SR n w (.slice ao len cap) cs) {i : Nat} (hi : i < cs.length) : ∃ b o, ao = some ⟨b, o, none⟩ ∧ b < w.heap.size ∧ w.rangeAt b (o + i * n) (cs.getD i #[]).toList := by
  obtain ⟨ao', cap', he, h1, h2, h3⟩ := h
  simp only [Value.slice.injEq] at he
  obtain ⟨rfl, -, -⟩ := he
  obtain ⟨b, o, hao, hb, hr⟩ := h3 (by omega)
  exact ⟨b, o, hao, hb, hr i hi⟩

theorem takeN {R : List Ent} {j : Nat} (h : j < R.length) : R.take (j + 1) = R.take j ++ [R.getD j Ent.zero] := by
  rw [List.take_succ_eq_append_getElem h]
  simp [List.getD, h]

set_option maxHeartbeats 8000000 in
theorem extents_any (v : Value) (R : List Ent) (d s : Int) (cm : ByteArray) (w : World) (h : SR 20 w v (R.map Ent.cs)) (hn : R.length ≤ 733007751829) :
    Calls Try.prog 7 #[.agg #[v, .int .i64 d, .int .i64 s, .string cm]] w fun e w' => ∃ a c, e = .returned (.slice a R.length c) ∧ OR 39 2 w' w.heap.size (.slice a R.length c) ((srtS (R.map Ent.frm) (R.map eS)).map spC) ∧ Below w.heap.size w w' := by
  have HL := hide h
  obtain ⟨ca, ccap, rfl, c1, c2⟩ := h.open
  rw [List.length_map] at c1
  have elc : (R.map Ent.cs).length = R.length := List.length_map ..
  rw [elc] at HL ⊢
  clear h elc
  have hb1 : Below w.heap.size w (w.alloc (.cells #[.slice ca R.length ccap, .int .i64 d, .int .i64 s, .string cm] 24)) := (Below.refl _ _).alloc (Nat.le_refl _) _
  have hx1 : (w.alloc (.cells #[.slice ca R.length ccap, .int .i64 d, .int .i64 s, .string cm] 24)).heap[w.heap.size]? = some (.cells #[.slice ca R.length ccap, .int .i64 d, .int .i64 s, .string cm] 24) := heap_alloc_new _ _
  have hz1 : (w.alloc (.cells #[.slice ca R.length ccap, .int .i64 d, .int .i64 s, .string cm] 24)).heap.size = w.heap.size + 1 := size_alloc' _ _
  obtain ⟨w1, hw1⟩ : ∃ y, w.alloc (.cells #[.slice ca R.length ccap, .int .i64 d, .int .i64 s, .string cm] 24) = y := ⟨_, rfl⟩
  rw [hw1] at hb1 hx1 hz1
  have q0 : w1.cell? ⟨w.heap.size, 0, none⟩ = some (.slice ca R.length ccap) := by simp [World.cell?, hx1]
  have HB1 := hide hb1
  have HZ1 := hide hz1
  have HQ0 := hide q0
  clear hb1 hx1 hz1
  go_enter Try.func7, Try.ntmps7
  go_wp2
  go_loopw [3, 4, 5, 6, 12] (fun pv sv _ _ iv wr => ∃ (j : Nat) (pa sa : Option Addr) (pc sc : Nat) (P S : List (Array Value)), pv = .slice pa j pc ∧ sv = .slice sa j sc ∧ iv = .int .i64 (j : Int) ∧ j ≤ R.length ∧ Hid ((P.length = j ∧ S.length = j) ∧ P = ((R.take j).map Ent.frm).map kC ∧ S = ((R.take j).map eS).map spC) ∧ Hid (OR 3 1 wr w1.heap.size (.slice pa j pc) P) ∧ Hid (OR 39 2 wr w1.heap.size (.slice sa j sc) S) ∧ Hid (Below w1.heap.size w1 wr) ∧ Hid (∀ k, (Value.slice pa j pc).ownBlock = some k → (Value.slice sa j sc).ownBlock ≠ some k)) (fun _ _ _ _ iv _ => R.length - (intOf iv).toNat)
  case atStart => exact ⟨0, none, none, 0, 0, [], [], rfl, rfl, rfl, Nat.zero_le _, ⟨⟨rfl, rfl⟩, rfl, rfl⟩, OR.nil _ _ _ _, OR.nil _ _ _ _, Below.refl _ _, fun k hk => by simp [Value.ownBlock] at hk⟩
  case round =>
    obtain ⟨j, pa, sa, pc, sc, P, S, rfl, rfl, rfl, hj, HN, HP, HS, HB, HD⟩ := hrel
    clear q0
    have q0 : wr.cell? ⟨w.heap.size, 0, none⟩ = some (.slice ca R.length ccap) := (HB.out.cell (by show w.heap.size < _; have := HZ1.out; omega)).trans HQ0.out
    by_cases hlt : j < R.length
    · have hlt' : (j : Int) < (R.length : Int) := by omega
      obtain ⟨b0, o0, hla, hbl, hrg⟩ := srLt HL.out (i := j) (by rw [List.length_map]; exact hlt)
      rw [csN_get hlt] at hrg
      have HTK := hide (takeN hlt)
      obtain ⟨l, hl⟩ : ∃ l, l = R.getD j Ent.zero := ⟨_, rfl⟩
      rw [← hl] at hrg HTK
      have g17 := range_cell hrg (i := 17) (u := .int .i64 l.frm) rfl
      have g19 := range_cell hrg (i := 19) (u := .int .i64 l.til) rfl
      have HES : Hid (eS l = (l.frm, l.til)) := rfl
      have HEF : Hid (∃ F, F = l.frm) := ⟨_, rfl⟩
      obtain ⟨F, hF⟩ := HEF.out
      obtain ⟨T, hT⟩ : ∃ T, T = l.til := ⟨_, rfl⟩
      have HFe := hide hF
      have HTe := hide hT
      rw [← hF] at g17
      rw [← hT] at g19
      have HBl := hide hbl
      have HC := hide (And.intro g17 g19)
      have HCW : Hid (∀ W, Below w1.heap.size w1 W → W.cell? ⟨b0, o0 + j * 20 + 17, none⟩ = some (.int .i64 F) ∧ W.cell? ⟨b0, o0 + j * 20 + 19, none⟩ = some (.int .i64 T)) := fun W hW => by
        have hb := HB1.out.trans (hW.mono HB1.out.size)
        exact ⟨(hb.cell HBl.out).trans HC.out.1, (hb.cell HBl.out).trans HC.out.2⟩
      obtain ⟨r17, r19⟩ := HCW.out wr HB.out
      subst hla
      clear hl hrg g17 g19 hF hT HEF hbl
      have HPa := hide (HP.out.alloc (.cells #[.int .i64 F] 3))
      go_wp2_with (at_builtin; refine wpRow rfl _ _ 41 3 1 8 _ rfl Try.underlying41 infoI13 rfl (by omega) w1.heap.size (.slice pa j pc) P #[.int .i64 F] wr.heap.size 1 (0, 0) rfl HPa.out rfl (heap_alloc_new _ _) rfl (by simp [Value.oneCell']) (by rw [HN.out.1.1]; omega) (by rw [HN.out.1.1]; omega) (by rw [size_alloc']; have := HB.out.size; omega) ?_)
      intro v3 w3 ho3 hg3 hat3
      have hs3 := hg3.size
      rw [size_alloc'] at hs3
      have HB3 : Hid (Below w1.heap.size w1 w3) := (HB.out.alloc HB.out.size _).grown hg3 (by rw [size_alloc']; have := HB.out.size; omega) (fun k hk => (HP.out.lt k hk).1)
      have HS3 : Hid (OR 39 2 w3 w1.heap.size (.slice sa j sc) S) := (HS.out.alloc _).grown hg3 (fun k hk e => HD.out k e hk)
      obtain ⟨a3, c3, hv3, z1, z2⟩ := ho3.shape
      rw [List.length_append, HN.out.1.1, List.length_singleton] at hv3
      subst hv3
      have HD3 : Hid (∀ k, (Value.slice a3 (j + 1) c3).ownBlock = some k → (Value.slice sa j sc).ownBlock ≠ some k) := fun k hk hks => by
        rcases hat3 with e | e
        · exact HD.out k (e ▸ hk) hks
        · rw [hk] at e
          simp only [Option.some.injEq, size_alloc'] at e
          have := (HS.out.lt k hks).2
          omega
      have HP3 := hide ho3
      clear ho3 hg3 hat3 hs3 z1 z2 r17 r19 q0
      have HC3 := hide (HCW.out w3 HB3.out)
      have HC3a := hide (HCW.out _ (HB3.out.alloc HB3.out.size (.cells #[.int .i64 F, .int .i64 T] 39)))
      have HO3 : Hid (OR 39 2 (w3.alloc (.cells #[.int .i64 F, .int .i64 T] 39)).drew w1.heap.size (.slice sa j sc) S) := (HS3.out.alloc _).move (fun _ _ => rfl)
      have HH3 : Hid ((w3.alloc (.cells #[.int .i64 F, .int .i64 T] 39)).drew.heap[w3.heap.size]? = some (.cells #[.int .i64 F, .int .i64 T] 39)) := heap_alloc_new w3 _
      have HZ3 : Hid (w1.heap.size ≤ (w3.alloc (.cells #[.int .i64 F, .int .i64 T] 39)).drew.heap.size) := by show w1.heap.size ≤ (w3.alloc _).heap.size; rw [size_alloc']; have h1 := HB3.out.size; omega
      go_wp2_with fail
      go_region_held3 (fun W => W.cell? ⟨b0, o0 + j * 20 + 17, none⟩ = some (.int .i64 F) ∧ W.cell? ⟨b0, o0 + j * 20 + 19, none⟩ = some (.int .i64 T)) (first | exact HC3.out | exact HC3a.out | exact HC4.out)
        (first
          | (refine stepRow (by rfl) _ _ 33 39 2 16 _ (by rfl) Try.underlying33 infoS rfl (by omega) w1.heap.size (.slice sa j sc) S #[.int .i64 F, .int .i64 T] w3.heap.size 1 (0, 0) (by simp [Act.eval, Act.put]) HO3.out (by simp [Act.eval, Act.put]) HH3.out rfl (by simp [Value.oneCell']) (by rw [HN.out.1.2]; omega) (by rw [HN.out.1.2]; omega) HZ3.out ?_; intro v4 w4 ho4 hg4' hat4; have hg4 := undrew hg4'; clear hg4'; have HB4 : Hid (Below w1.heap.size w1 w4) := (HB3.out.alloc HB3.out.size _).grown hg4 (by rw [size_alloc']; have := HB3.out.size; omega) (fun k hk => (HS3.out.lt k hk).1); have HC4 := hide (HCW.out w4 HB4.out); have HO4 := hide ho4; have HG4 := hide hg4; have HA4 := hide hat4; clear ho4 hg4 hat4))
      obtain ⟨a4, c4, hv4, z1, z2⟩ := HO4.out.shape
      rw [List.length_append, HN.out.1.2, List.length_singleton] at hv4
      subst hv4
      have HP4 : Hid (OR 3 1 w4 w1.heap.size (.slice a3 (j + 1) c3) (P ++ [#[.int .i64 F]])) := (HP3.out.alloc _).grown HG4.out (fun k hk e => HD3.out k hk e)
      have HD4 : Hid (∀ k, (Value.slice a3 (j + 1) c3).ownBlock = some k → (Value.slice a4 (j + 1) c4).ownBlock ≠ some k) := fun k hk hks => by
        rcases HA4.out with e | e
        · exact HD3.out k hk (e ▸ hks)
        · rw [hks] at e
          have e' : k = (w3.alloc (.cells #[.int .i64 F, .int .i64 T] 39)).heap.size := Option.some.inj e
          rw [size_alloc'] at e'
          have := (HP3.out.lt k hk).2
          omega
      have HN4 : Hid (((P ++ [#[Value.int .i64 F]]).length = j + 1 ∧ (S ++ [#[Value.int .i64 F, Value.int .i64 T]]).length = j + 1) ∧ P ++ [#[Value.int .i64 F]] = ((R.take (j + 1)).map Ent.frm).map kC ∧ S ++ [#[Value.int .i64 F, Value.int .i64 T]] = ((R.take (j + 1)).map eS).map spC) := by
        refine ⟨⟨by rw [List.length_append, HN.out.1.1]; rfl, by rw [List.length_append, HN.out.1.2]; rfl⟩, ?_, ?_⟩
        · rw [HTK.out, List.map_append, List.map_append, ← HN.out.2.1, HFe.out]; rfl
        · rw [HTK.out, List.map_append, List.map_append, ← HN.out.2.2, HFe.out, HTe.out]; rfl
      clear HN HP HS HB HD HPa HB3 HS3 HD3 HP3 HC3 HC3a HO3 HH3 HZ3
      go_wp2
      go_roundw
      case rel => exact ⟨j + 1, a3, a4, c3, c4, _, _, rfl, rfl, by go_num, by omega, HN4.out, HP4.out, HO4.out, HB4.out, HD4.out⟩
      case measure => simp [intOf]; omega
    · have hlt' : ¬ (j : Int) < (R.length : Int) := by omega
      obtain rfl : j = R.length := by omega
      have ht : R.take R.length = R := List.take_of_length_le (Nat.le_refl _)
      have hp := HP.out
      have hs := HS.out
      rw [HN.out.2.1, ht] at hp
      rw [HN.out.2.2, ht] at hs
      have hS := sortS_any _ _ (R.map Ent.frm) (R.map eS) wr (or_oi hp).sb hs.sr (by rw [List.length_map, List.length_map]) (by rw [List.length_map]; omega)
      rw [List.length_map] at hS
      have HB2 := hide (HB1.out.trans (HB.out.mono HB1.out.size))
      clear hp hs ht HN HP HS HD
      go_wp2_with fail
      refine hS.mono ?_
      rintro e w5 ⟨a5, c5, rfl, o5, b5⟩
      have HO5 := hide (o5.base HB2.out.size)
      have HB5 := hide (HB2.out.trans (b5.mono HB2.out.size))
      clear o5 b5 hS
      go_wp2
      go_ret
      exact ⟨a5, c5, rfl, HO5.out, HB5.out⟩

end Go.Proofs.Ytmbgjkghcpkoiaa

