import Derived.Test.YthlbmpmbbdaboabXw2
namespace Go.Proofs.Ythlbmpmbbdaboab
open Go.RowKit Go.Maps
set_option maxRecDepth 20000

theorem WV.bytes {T : Nat} {rest : List Value} {w : World} {K : Nat → Nat} {g : Nat} {v : Value} {d : List Int} (h : WV T rest w K g v d) : ∃ a c, v = .slice a d.length c ∧ d.length ≤ c ∧ c ≤ 9223372036854775807 ∧ ∀ i, i < d.length → ∃ b, a = some ⟨b, 0, none⟩ ∧ w.cell? ⟨b, i, none⟩ = some (.int .u8 (d.getD i 0)) := by
  obtain ⟨a, c, rfl⟩ := h.o.shape
  obtain ⟨q1, q2⟩ := h.o.sb.cap
  refine ⟨a, c, rfl, q1, q2, fun i hi => ?_⟩
  rcases h.o.2 with ⟨e, h0⟩ | ⟨gb, c', cur, e, _⟩
  · omega
  · simp only [Value.slice.injEq] at e
    obtain ⟨rfl, -, -⟩ := e
    exact ⟨gb, rfl, h.o.get rfl hi⟩

theorem byte_of {row : List Int} (hb : Bit row) {i : Nat} (hi : i < row.length) : row.getD i 0 = 0 ∨ row.getD i 0 = 1 := by
  have : row.getD i 0 = row[i] := by simp [List.getD, hi]
  rw [this]
  exact hb _ (List.getElem_mem _)

/-- A byte of an owned list is written. -/
theorem OB.set {w : World} {base : Nat} {v : Value} {l : List Int} (h : OB w base v l) {B i : Nat} (hv : v.ownBlock = some B) (z : Int) : OB (w.setCell ⟨B, i, none⟩ (.int .u8 z)) base v (l.set i z) := by
  refine ⟨by simp, ?_⟩
  rcases h.2 with ⟨rfl, _⟩ | ⟨gb, cap, cur, rfl, k1, k2, k3, k4, k5, k6⟩
  · simp [Value.ownBlock] at hv
  · simp [Value.ownBlock] at hv
    subst hv
    refine .inr ⟨gb, cap, cur.setIfInBounds i (.int .u8 z), by simp, k1, heap_setCell_at _ k2, by simpa using k3, k4, by simpa using k5, ?_⟩
    rw [Array.toList_setIfInBounds, List.take_set, List.length_set, k6, List.map_set]

theorem OB.free {w : World} {base : Nat} {v : Value} {l : List Int} (h : OB w base v l) {B : Nat} (hv : v.ownBlock = some B) (i : Nat) : w.frozen? ⟨B, i, none⟩ = false := by
  rcases h.2 with ⟨rfl, _⟩ | ⟨gb, cap, cur, rfl, k1, k2, _⟩
  · simp [Value.ownBlock] at hv
  · simp [Value.ownBlock] at hv
    subst hv
    simp [World.frozen?, k2]

set_option maxHeartbeats 4000000 in
theorem xbytes_any {w : World} {K : Nat → Nat} {g : Nat} {row : List Int} (h : Wx w K g row) :
    Calls Try.prog 38 #[.pointer (some ⟨g, 0, none⟩)] w fun e w' => ∃ a c, e = .returned (.slice a (pack row).length c) ∧ OB w' w.heap.size (.slice a (pack row).length c) (pack row) ∧ Below w.heap.size w w' := by
  obtain ⟨uv, h1, h2, h3⟩ := h
  obtain ⟨a, c, hv, q1, q2, q3⟩ := h1.bytes
  subst hv
  have HW := hide h1
  have HBT := hide h2
  have HQ3 := hide q3
  have hgl := h1.lt
  have HC0 : Hid (w.cell? ⟨g, 0, none⟩ = some (.slice a row.length c)) := h1.cell 0
  have c0 := HC0.out
  clear h1 h2 q3
  go_enter Try.func38, Try.ntmps38
  go_wp2
  go_loopw [3, 4] (fun u i wr => ∃ k : Nat, k ≤ row.length ∧ i = .int .i64 k ∧ Hid (OB wr w.heap.size u (pack (row.take k))) ∧ Hid (Below w.heap.size w wr)) (fun _ i _ => row.length - (intOf i).toNat)
  case atStart => exact ⟨0, Nat.zero_le _, rfl, by show OB _ _ _ _; rw [List.take_zero, pack_nil]; exact World.ownsRow_nil _ _ _ _, Below.refl _ _⟩
  case round =>
    clear c0
    obtain ⟨k, hk, rfl, HO, HB⟩ := hrel
    have k0 : wr.cell? ⟨g, 0, none⟩ = some (.slice a row.length c) := (HB.out.cell hgl).trans HC0.out
    by_cases hlt : k < row.length
    · have hlt' : (k : Int) < (row.length : Int) := by omega
      obtain ⟨b, hb, hcw⟩ := HQ3.out k hlt
      subst hb
      obtain ⟨y, HY⟩ : ∃ y, Hid (y = row.getD k 0) := ⟨_, rfl⟩
      have hyb := byte_of HBT.out hlt
      rw [← HY.out] at hcw hyb
      have hbl := World.block_lt_of_cell? _ _ hcw
      have hc : wr.cell? ⟨b, k, none⟩ = some (.int .u8 y) := (HB.out.cell hbl).trans hcw
      have hy0 : 0 ≤ y := by omega
      have hy1 : y ≤ 1 := by omega
      obtain ⟨F, HF⟩ : ∃ F : Nat, Hid (F = k / 8) := ⟨_, rfl⟩
      obtain ⟨S, HSS⟩ : ∃ S : Nat, Hid (S = k % 8) := ⟨_, rfl⟩
      have hkF : ((k : Int) / 8) = (F : Int) := by rw [HF.out]; omega
      have hkS : ((k : Int) % 8) = (S : Int) := by rw [HSS.out]; omega
      have hS8 : S < 8 := by rw [HSS.out]; omega
      have htl : (row.take k).length = k := by rw [List.length_take]; omega
      have hps := pack_snoc (HBT.out.take k) hyb
      rw [htl, ← HF.out, ← HSS.out] at hps
      have hyt : row[k]? = some y := by rw [HY.out]; simp [List.getD, hlt]
      have hts := take_one hyt
      rw [← hts] at hps
      have hpl := length_pack (HBT.out.take k)
      rw [htl] at hpl
      obtain ⟨P, HP⟩ : ∃ P, Hid (P = pack (row.take k)) := ⟨_, rfl⟩
      rw [← HP.out] at hps hpl HO
      have HPS := hide hps
      have HPL := hide hpl
      have HBs := HB.out.size
      clear hps hts hyt htl hcw hpl
      have hpp := pow_pos S
      have h27 : (2 : Int) ^ S ≤ 2 ^ 7 := pow_le (by omega)
      have hyS : 0 ≤ y * 2 ^ S ∧ y * 2 ^ S ≤ 2 ^ S := by rcases hyb with e | e <;> rw [e] <;> omega
      have hw1 : IntKind.u8.wrap (y * 2 ^ S) = y * 2 ^ S := by rw [IntKind.wrap_u8]; omega
      by_cases hS0 : S = 0
      · subst hS0
        have hPF : P.length = F := by rw [HPL.out, HF.out]; have := HSS.out; omega
        have HPF := hide hPF
        have HPN : Hid (pack (row.take (k + 1)) = P ++ [y]) := HPS.out.1 rfl
        obtain ⟨a1, p1, hu⟩ := HO.out.shape
        rw [hPF] at hu
        subst hu
        have HALC : Hid (OB (wr.alloc (.cells #[.int .u8 0] 5)) w.heap.size (.slice a1 F p1) P) := HO.out.alloc _
        have HSR : Hid (Src Try.prog 1 42 (.slice (some ⟨wr.heap.size, 0, none⟩) 1 1) ([0] : List Int).length (([0] : List Int).map (Value.int .u8)) (wr.alloc (.cells #[.int .u8 0] 5))) := (built_sb wr [0] (by unfold maxLen; simp)).src
        clear hPF hyS hpp h27
        go_wp2_with (at_builtin; refine wpList_app rfl _ _ 42 rfl w.heap.size _ _ P [0] rfl HALC.out rfl HSR.out (by rw [HPF.out]; simp; omega) (by simp; omega) ?_)
        intro v3 w3 ho3 hgr3
        have HB3 : Hid (Below w.heap.size w w3) := (HB.out.alloc HBs _).grown hgr3.by (by simp; omega) (fun j hj => by have := HO.out.lt j hj; omega)
        obtain ⟨g3, p3, hv3, hgb3, hg3⟩ := World.ownsRow.form ho3 (by simp)
        rw [List.length_append, HPF.out, List.length_singleton] at hv3
        subst hv3
        have HO3 := hide ho3
        have hx : w3.cell? ⟨g3, F, none⟩ = some (.int .u8 0) := by
          rw [ho3.get rfl (i := F) (by rw [List.length_append, HPF.out]; simp)]
          have : (P ++ [0]).getD F 0 = 0 := by rw [← HPF.out]; simp
          rw [this]
        have hxf : w3.frozen? ⟨g3, F, none⟩ = false := ho3.free rfl F
        have k3 : w3.cell? ⟨g, 0, none⟩ = some (.slice (some ⟨b, 0, none⟩) row.length c) := (HB3.out.cell hgl).trans HC0.out
        have hc3 : w3.cell? ⟨b, k, none⟩ = some (.int .u8 y) := by
          have h0 : w.cell? ⟨b, k, none⟩ = some (.int .u8 y) := by
            obtain ⟨b', e1, e2⟩ := HQ3.out k hlt
            simp only [Option.some.injEq, Addr.mk.injEq, and_true] at e1
            subst e1
            rw [e2, HY.out]
          exact (HB3.out.cell hbl).trans h0
        have HNX : Hid (∀ n, OB ((w3.drewN n).setCell ⟨g3, F, none⟩ (.int .u8 y)) w.heap.size (.slice (some ⟨g3, 0, none⟩) (F + 1) p3) (P ++ [y]) ∧ Below w.heap.size w ((w3.drewN n).setCell ⟨g3, F, none⟩ (.int .u8 y))) := fun n => by
          have h1 := OB.set (w := w3.drewN n) (HO3.out.move fun _ _ => rfl) (B := g3) (i := F) rfl y
          rw [List.set_append_right _ _ (by rw [HPF.out]; exact Nat.le_refl _), HPF.out, Nat.sub_self] at h1
          exact ⟨h1, (below_drewN HB3.out n).setCell hgb3 _⟩
        have hF3 : (F : Int) < (F : Int) + 1 := by omega
        have hwy : IntKind.u8.wrap y = y := by rw [IntKind.wrap_u8]; omega
        have hwk : IntKind.i64.wrap (k : Int) = k := by rw [IntKind.wrap_i64]; omega
        clear ho3 hgr3
        go_wp2
        go_region
        go_wp2
        go_roundw
        case rel => exact ⟨k + 1, by omega, by go_num, by show OB _ _ _ _; rw [HPN.out]; exact (HNX.out 1).1, (HNX.out 1).2⟩
        case measure => simp [intOf]; omega
      · have hPF : P.length = F + 1 := by rw [HPL.out, HF.out]; have := HSS.out; omega
        have HPF := hide hPF
        obtain ⟨x, hx1, hx2, hx3, hx4⟩ := HPS.out.2 hS0
        have HPN := hide hx2
        obtain ⟨g3, p3, hv3, hgb3, hg3⟩ := World.ownsRow.form HO.out (by rw [hPF]; omega)
        rw [hPF] at hv3
        subst hv3
        have hx : wr.cell? ⟨g3, F, none⟩ = some (.int .u8 x) := by
          rw [HO.out.get rfl (i := F) (by rw [hPF]; omega)]
          rw [List.getD, hx1]
          rfl
        have hxf : wr.frozen? ⟨g3, F, none⟩ = false := HO.out.free rfl F
        obtain ⟨z, HZ⟩ : ∃ z, Hid (z = x + y * 2 ^ S) := ⟨_, rfl⟩
        have hwz : IntKind.u8.wrap (x + y * 2 ^ S) = z := by rw [IntKind.wrap_u8, HZ.out]; omega
        rw [← HZ.out] at HPN hx4
        have HNX : Hid (∀ n, OB ((wr.drewN n).setCell ⟨g3, F, none⟩ (.int .u8 z)) w.heap.size (.slice (some ⟨g3, 0, none⟩) (F + 1) p3) (P.set F z) ∧ Below w.heap.size w ((wr.drewN n).setCell ⟨g3, F, none⟩ (.int .u8 z))) := fun n =>
          ⟨OB.set (w := wr.drewN n) (HO.out.move fun _ _ => rfl) (B := g3) (i := F) rfl z, (below_drewN HB.out n).setCell hgb3 _⟩
        have hF3 : (F : Int) < (F : Int) + 1 := by omega
        have hS0' : ((S : Int) == 0) = false := by simp; omega
        have hwk : IntKind.i64.wrap (k : Int) = k := by rw [IntKind.wrap_i64]; omega
        clear hPF hx2 hx1 hyS hpp h27
        go_wp2
        go_region
        go_wp2
        go_roundw
        case rel => exact ⟨k + 1, by omega, by go_num, by show OB _ _ _ _; rw [HPN.out]; exact (HNX.out 1).1, (HNX.out 1).2⟩
        case measure => simp [intOf]; omega
    · obtain rfl : k = row.length := by omega
      have hlt' : ¬ (row.length : Int) < (row.length : Int) := by omega
      have HT : Hid (OB wr w.heap.size u3 (pack row)) := by have := HO.out; rwa [List.take_of_length_le (Nat.le_refl _)] at this
      clear HO
      obtain ⟨a1, p1, rfl⟩ := HT.out.shape
      go_wp2
      go_ret
      exact ⟨_, _, rfl, HT.out, HB.out⟩
end Go.Proofs.Ythlbmpmbbdaboab
