import Derived.Test.YtpbghgddeodabaaGWr3
namespace Go.Proofs.Ytpbghgddeodabaa
open Go.RowKit Go.Maps
set_option maxRecDepth 20000

set_option linter.unusedSimpArgs false in
set_option maxHeartbeats 4000000 in
theorem bytes_any {w : World} {K : Nat → Nat} {g : Nat} {v : Value} {d : List Int} {r : Int} {h : Nat} {row : List Int} (H0 : WW w K g v d r h) (L : Lies row d r h) (u : Value) (l : List Int) (hB : Byt l)
    (HS : ∀ wr K1 v1 n1, Fr K K1 w wr → Stays g w wr v d.length v1 n1 → SB wr u l) (hl : row.length + 8 * l.length ≤ 268435456) :
    Calls Try.prog 25 #[.pointer (some ⟨g, 0, none⟩), u] w fun e w' => e = .returned (.tuple #[]) ∧ ∃ K' v' d' r' h', WW w' K' g v' d' r' h' ∧ Lies (row ++ unpack l) d' r' h' ∧ Fr K K' w w' := by
  have H := hide H0
  have HSB := hide HS
  have c0 : w.cell? ⟨g, 0, none⟩ = some v := H0.cell 0
  have c1 : w.cell? ⟨g, 1, none⟩ = some (.int .u64 r) := H0.cell 1
  have c2 : w.cell? ⟨g, 2, none⟩ = some (.int .i64 h) := H0.cell 2
  have hfz := H0.free
  have hgl := H0.lt
  obtain ⟨a, c, rfl⟩ := H0.o.shape
  obtain ⟨ua, uc, hu, _⟩ := HS w K _ _ (Fr.refl _ _) (Stays.refl _ _ _ _)
  subst hu
  have hh := L.h8
  have hll := L.len
  have HL := hide L
  have HBy := hide hB
  clear H0 L HS hB
  by_cases h0 : h = 0
  · subst h0
    have HSRC : Hid (Src Try.prog 1 22 (.slice ua l.length uc) l.length (l.map (Value.int .u8)) w) := (HSB.out w K _ _ (Fr.refl _ _) (Stays.refl _ _ _ _)).src
    have HLEN : Hid (d.length + l.length ≤ 140737488355328) := by show _ ≤ _; omega
    go_enter Try.func25, Try.ntmps25
    go_wp2_with (at_builtin; refine wpList_app rfl _ _ 22 rfl 0 _ (.slice ua l.length uc) d l rfl H.out.o rfl HSRC.out HLEN.out (Nat.zero_le _) ?_)
    intro v6 w6 hown6 hgrow6
    have e2 : w6.heap[g]? = _ := (hgrow6.by.block g hgl (fun e => H.out.ng e.symm)).trans H.out.s
    have t0 : w6.cell? ⟨g, 0, none⟩ = some (.slice a d.length c) := by simp [World.cell?, e2]
    have tf : w6.frozen? ⟨g, 0, none⟩ = false := by simp [World.frozen?, e2]
    have HN : Hid (∃ K' v' d' r' h', WW (w6.setCell ⟨g, 0, none⟩ v6) K' g v' d' r' h' ∧ Lies (row ++ unpack l) d' r' h' ∧ Fr K K' w (w6.setCell ⟨g, 0, none⟩ v6)) := by
      obtain ⟨K', a1, a2⟩ := H.out.put (w1 := w6) hgrow6.by hown6 (by
        rcases hgrow6.at with e | e
        · exact .inr (fun k hk => by rw [e] at hk; cases hk; exact Nat.le_refl _)
        · exact .inl e)
      refine ⟨K', _, _, r, 0, a1, ⟨?_, byt_append HL.out.b HBy.out, HL.out.r0, HL.out.r1, HL.out.h8⟩, a2⟩
      rw [HL.out.e, unpack_append]
      simp [bts]
    obtain ⟨a6, c6, rfl⟩ := hown6.shape
    rw [List.length_append] at HN
    clear hown6 hgrow6 e2
    go_wp2
    (try simp only [Exit.inBlock, Exit.then]); refine bodyPost_ret (results_none rfl _ _ _) rfl ?_
    exact ⟨rfl, HN.out⟩
  · have h0' : (0 : Int) < h := by omega
    have h0b : ((h : Int) == 0) = false := by simp; omega
    go_enter Try.func25, Try.ntmps25
    go_wp2_with fail
    refine (grow_any _ d l.length w H.out.o (by omega) (by omega)).mono ?_
    rintro e w1 ⟨a1, p1, rfl, ho1, hg1⟩
    have hgl1 : w1.heap[g]? = _ := (hg1.by.block g hgl (fun e => H.out.ng e.symm)).trans H.out.s
    have t0 : w1.cell? ⟨g, 0, none⟩ = some (.slice a d.length c) := by simp [World.cell?, hgl1]
    have tf : w1.frozen? ⟨g, 0, none⟩ = false := by simp [World.frozen?, hgl1]
    have HST : Hid (∃ K1, WW (w1.setCell ⟨g, 0, none⟩ (.slice a1 d.length p1)) K1 g (.slice a1 d.length p1) d r h ∧ Fr K K1 w (w1.setCell ⟨g, 0, none⟩ (.slice a1 d.length p1)) ∧ Stays g w (w1.setCell ⟨g, 0, none⟩ (.slice a1 d.length p1)) (.slice a d.length c) d.length (.slice a1 d.length p1) d.length) := by
      have hat : (Value.slice a1 d.length p1).ownBlock = (Value.slice a d.length c).ownBlock ∨ ∀ k, (Value.slice a1 d.length p1).ownBlock = some k → w.heap.size ≤ k := by
        rcases hg1.at with e | e
        · exact .inr (fun k hk => by rw [e] at hk; cases hk; exact Nat.le_refl _)
        · exact .inl e
      obtain ⟨K', b1, b2⟩ := H.out.put (w1 := w1) hg1.by ho1 hat
      refine ⟨K', b1, b2, fun b i hb hbg hi => ?_, hat, Nat.le_refl _, b2.size⟩
      rw [World.cell?_of_block (setCell_others w1 g 0 _ b hbg)]
      exact hg1.stays (news := []) H.out.o (by simpa using ho1) hb hi
    clear ho1 hg1 hgl1
    go_wp2
    clear t0 tf c0 c1 c2 hfz hgl h0b h0'
    go_loopw [32] (fun i wr => ∃ k : Nat, k ≤ l.length ∧ i = .int .i64 k ∧ Hid (∃ K1 v1 d1 r1 h1, WW wr K1 g v1 d1 r1 h1 ∧ Lies (row ++ unpack (l.take k)) d1 r1 h1 ∧ Fr K K1 w wr ∧ Stays g w wr (.slice a d.length c) d.length v1 d1.length)) (fun i _ => l.length - (intOf i).toNat)
    case atStart =>
      obtain ⟨K1, b1, b2, b3⟩ := HST.out
      exact ⟨0, Nat.zero_le _, rfl, K1, _, d, r, h, b1, by simpa [unpack] using HL.out, b2, b3⟩
    case round =>
      clear HST
      obtain ⟨k, hk, rfl, HQ⟩ := hrel
      obtain ⟨K1, v1, d1, r1, h1, hW, hLi, hF, hS⟩ := HQ.out
      clear HQ
      have HW := hide hW
      have HLi := hide hLi
      have HF := hide hF
      have HS := hide hS
      have hlen := hLi.len
      rw [List.length_append, length_unpack, List.length_take] at hlen
      have hsb := HSB.out wr K1 _ _ hF hS
      clear hW hLi hF hS
      by_cases hlt : k < l.length
      · have hlt' : (k : Int) < (l.length : Int) := by omega
        obtain ⟨ao, uc', hue, hc1, hc2, hc3, hc4⟩ := hsb
        simp only [Value.slice.injEq] at hue
        obtain ⟨rfl, -, rfl⟩ := hue
        cases ua with
        | none => have := hc3 rfl; omega
        | some x0 =>
        obtain ⟨b, o, rfl⟩ := addr_lit (hc4 x0 rfl 0 (by omega))
        obtain ⟨q, hq, HQ⟩ : ∃ q, wr.cell? ⟨b, o + k, none⟩ = some (.int .u8 q) ∧ Hid (q = l.getD k 0) := by
          have := hc4 _ rfl k hlt
          rw [Addr.add_lit] at this
          exact ⟨_, this, rfl⟩
        have hq01 : 0 ≤ q ∧ q < 256 := by rw [HQ.out]; exact HBy.out k
        obtain ⟨hq0, hq1⟩ := hq01
        unfold maxLen at hc2
        clear hc3 hc4
        go_wp2_with fail
        refine (put_any HW.out HLi.out q 8 hq0 hq1 (by omega) (by omega)).mono ?_
        rintro e w2 ⟨rfl, K2, v2, d2, r2, h2, b1, b2, b3, b4⟩
        have HN : Hid (∃ K1 v1 d1 r1 h1, WW w2 K1 g v1 d1 r1 h1 ∧ Lies (row ++ unpack (l.take (k + 1))) d1 r1 h1 ∧ Fr K K1 w w2 ∧ Stays g w w2 (.slice a d.length c) d.length v1 d1.length) := by
          refine ⟨K2, v2, d2, r2, h2, b1, ?_, HF.out.trans b3, HS.out.trans b4⟩
          have e : l.take (k + 1) = l.take k ++ [q] := by
            rw [List.take_succ_eq_append_getElem hlt, HQ.out]
            simp [List.getD, hlt]
          rw [e, unpack_append, unpack_one, ← List.append_assoc]
          exact b2
        clear b1 b2 b3 b4 hq
        go_wp2
        go_roundw
        case rel => exact ⟨k + 1, by omega, by go_num, HN.out⟩
        case measure => simp [intOf]; omega
      · obtain rfl : k = l.length := by omega
        clear hsb
        have hlt' : ¬ (l.length : Int) < (l.length : Int) := by omega
        have HFIN : Hid (∃ K' v' d' r' h', WW wr K' g v' d' r' h' ∧ Lies (row ++ unpack l) d' r' h' ∧ Fr K K' w wr) := by
          refine ⟨K1, v1, d1, r1, h1, HW.out, ?_, HF.out⟩
          have := HLi.out
          rwa [List.take_of_length_le (Nat.le_refl _)] at this
        go_wp2
        (try simp only [Exit.inBlock, Exit.then]); refine bodyPost_end (results_none rfl _ _ _) rfl ?_
        exact ⟨rfl, HFIN.out⟩
end Go.Proofs.Ytpbghgddeodabaa

