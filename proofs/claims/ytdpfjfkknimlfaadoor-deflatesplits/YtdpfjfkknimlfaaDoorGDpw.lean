import Derived.Test.YtdpfjfkknimlfaaDoorGGsp
import Derived.Test.YtdpfjfkknimlfaaDoorGApi
import Derived.Test.YtdpfjfkknimlfaaDoorGLst
import Derived.Test.YtdpfjfkknimlfaaDoorGEx
namespace Go.Proofs.YtdpfjfkknimlfaaDoor
open Go.RowKit Go.Maps
set_option maxRecDepth 20000
set_option linter.unusedVariables false
set_option linter.unusedSimpArgs false

theorem isame11 (v1 v2 : Value) (l1 l2 : List Int) (w : World) (h1 : SI w v1 l1) (h2 : SI w v2 l2) :
    Calls Tryd.prog 6 #[v1, v2] w fun e w' => e = .returned (.bool (eqI l1 l2)) ∧ ∃ n, w' = w.drewN n := by
  obtain ⟨ao1, cap1, rfl, hlc1, hcm1, hnil1, hcell1⟩ := h1
  obtain ⟨ao2, cap2, rfl, hlc2, hcm2, hnil2, hcell2⟩ := h2
  unfold maxLen at hcm1 hcm2
  by_cases hne : l1.length = l2.length
  case neg =>
    have hd : ((l1.length : Int) == l2.length) = false := by simp; omega
    have hd' : ((l1.length : Int) != l2.length) = true := by simp; omega
    have HE : Hid (eqI l1 l2 = false) := by show _ = _; simp [eqI]; intro h; exact hne (by rw [h])
    clear hne
    go_enter Tryd.func6, Tryd.ntmps6
    go_wp2
    go_ret
    rw [HE.out]
    exact ⟨rfl, 0, rfl⟩
  case pos =>
    have hd' : ((l1.length : Int) != l2.length) = false := by simp; omega
    have HNE : Hid (l1.length = l2.length) := hne
    by_cases h0 : l1.length = 0
    · obtain rfl : l1 = [] := List.eq_nil_of_length_eq_zero h0
      obtain rfl : l2 = [] := List.eq_nil_of_length_eq_zero (by omega)
      clear hne hcell1 hcell2 hnil1 hnil2
      go_enter Tryd.func6, Tryd.ntmps6
      go_wp2
      refine wp_loop_rounds 1 ?_
      rw [rounds_succ]
      go_wp2
      go_ret
      exact ⟨by simp [eqI], 0, rfl⟩
    · cases ao1 with
      | none => have := hnil1 rfl; omega
      | some x1 =>
      cases ao2 with
      | none => have := hnil2 rfl; omega
      | some x2 =>
      obtain ⟨b1, o1, rfl⟩ := addr_lit (hcell1 x1 rfl 0 (by omega))
      obtain ⟨b2, o2, rfl⟩ := addr_lit (hcell2 x2 rfl 0 (by omega))
      have g1 : ∀ k, k < l1.length → w.cell? ⟨b1, o1 + k, none⟩ = some (.int .i64 (l1.getD k 0)) := fun k hk => by have := hcell1 _ rfl k hk; rwa [Addr.add_lit] at this
      have g2 : ∀ k, k < l1.length → w.cell? ⟨b2, o2 + k, none⟩ = some (.int .i64 (l2.getD k 0)) := fun k hk => by have := hcell2 _ rfl k (by omega); rwa [Addr.add_lit] at this
      clear hcell1 hcell2 hnil1 hnil2 hne
      have G1 : Hid (∀ k, k < l1.length → w.cell? ⟨b1, o1 + k, none⟩ = some (.int .i64 (l1.getD k 0))) := g1
      have G2 : Hid (∀ k, k < l1.length → w.cell? ⟨b2, o2 + k, none⟩ = some (.int .i64 (l2.getD k 0))) := g2
      clear g1 g2
      go_enter Tryd.func6, Tryd.ntmps6
      go_wp2
      go_loopw [5] (fun i wr => ∃ k n : Nat, k ≤ l1.length ∧ i = .int .i64 k ∧ wr = w.drewN n ∧ Hid (l1.take k = l2.take k)) (fun i _ => l1.length - (intOf i).toNat)
      case atStart => exact ⟨0, 0, Nat.zero_le _, rfl, rfl, rfl⟩
      case round =>
        obtain ⟨k, n, hk, rfl, rfl, HT⟩ := hrel
        by_cases hlt : k < l1.length
        · have hlt2 : (k : Int) < (l2.length : Int) := by have := HNE.out; omega
          obtain ⟨c1, hc1, HC1⟩ : ∃ c, w.cell? ⟨b1, o1 + k, none⟩ = some (.int .i64 c) ∧ Hid (c = l1.getD k 0) := ⟨_, G1.out k hlt, rfl⟩
          obtain ⟨c2, hc2, HC2⟩ : ∃ c, w.cell? ⟨b2, o2 + k, none⟩ = some (.int .i64 c) ∧ Hid (c = l2.getD k 0) := ⟨_, G2.out k hlt, rfl⟩
          have HK := take_step (l1 := l1) (l2 := l2) (k := k) (by omega) HNE.out HT.out
          by_cases hcc : c1 = c2
          · subst hcc
            go_wp2
            go_quiet (fail)
            go_wp2
            go_roundw
            case rel => exact ⟨k + 1, _, by omega, by go_num, rfl, HK.1 (by rw [← HC1.out, ← HC2.out])⟩
            case measure => simp [intOf]; omega
          · have hcb : (c1 != c2) = true := by simpa using hcc
            have HX : Hid (eqI l1 l2 = false) := by show _ = _; simp only [eqI, decide_eq_false_iff_not]; exact HK.2 (by rw [← HC1.out, ← HC2.out]; exact hcc)
            go_wp2
            go_quiet (fail)
            go_wp2
            go_ret
            rw [HX.out]
            exact ⟨rfl, _, World.drewN_drewN _ _ _⟩
        · go_wp2
          go_ret
          refine ⟨?_, n, rfl⟩
          have : l1 = l2 := by
            have h := HT.out
            rwa [List.take_of_length_le (by omega), List.take_of_length_le (by rw [← HNE.out]; omega)] at h
          simp [eqI, this]

theorem wpList_mkC {w : World} {ops : Array Oper} {rest : List Oper} {o : Oper} {a : Act} {Q : Exit → Act → World → Prop} (hg : o.guard = none) (l c : Operand) (hop : o.op = Op.makeSlice 22 l c)
    (kl kc : IntKind) (n m : Nat) (M : Int) (hl : a.eval l = .int kl n) (hc : a.eval c = .int kc M) (hM : M = (m : Int)) (hnm : n ≤ m) (b2 : m ≤ 5864062014805)
    (hK : ∀ w' cur, w'.heap[w.heap.size]? = some (.cells cur 24 (0, 0)) → cur.size = m * 3 → Below w.heap.size w w' → wpList Tryd.prog ops Q rest (a.put o.dst (.slice (some ⟨w.heap.size, 0, none⟩) n m)) w') :
    wpList Tryd.prog ops Q (o :: rest) a w := by
  subst hM
  obtain ⟨i0, hi, hz0, hz1, hz2⟩ := info_parts infoTok
  refine wpList_plain hg fun K hK' => ?_
  have hr := run_make (P := Tryd.prog) w 22 24 i0 _ Tryd.underlying22 hi hz0 kl kc (n : Int) (m : Int) (by omega) (by omega) (by rw [hz2]; omega) (by omega)
  unfold Oper.wp
  simp [execOp, hop, hl, hc, hr, Result.andThen]
  refine hK' _ _ (hK _ _ (heap_alloc_new _ _) ?_ ((Below.refl _ _).alloc (Nat.le_refl _) _))
  rw [hz1]
  simp [madeCells]

theorem wpList_copyF {w : World} {ops : Array Oper} {rest : List Oper} {o : Oper} {a : Act} {Q : Exit → Act → World → Prop} (hgd : o.guard = none) (d s : Operand)
    (ho : o.op = .call { callee := .builtin .copy, args := #[d, s], argTypes := #[22, 22] }) (g dCap : Nat) (v : Value) (l : List Tk) (hd : a.eval d = .slice (some ⟨g, 0, none⟩) l.length dCap) (hs : a.eval s = v) (hsp : SK w v l)
    (cur : Array Value) (hg : w.heap[g]? = some (.cells cur 24 (0, 0))) (hc : l.length * 3 ≤ cur.size)
    (h : ∀ w' cur', w'.heap[g]? = some (.cells cur' 24 (0, 0)) → cur'.size = cur.size → cur'.toList.take (l.length * 3) = fr3 l → (∀ k, k ≠ g → w'.heap[k]? = w.heap[k]?) → w'.heap.size = w.heap.size → w'.os = w.os → w'.tape = w.tape → w'.output = w.output → wpList Tryd.prog ops Q rest (a.put o.dst (goInt l.length)) w') :
    wpList Tryd.prog ops Q (o :: rest) a w := by
  have hsz : (Tryd.prog.info? 24).map (·.size) = some 3 := by kernel_rfl
  refine wpList_plain hgd fun K hK => ?_
  obtain ⟨ao, cap, rfl, h1, h2, h3, h4⟩ := hsp
  unfold Oper.wp
  cases ao with
  | none =>
    have h0 := h3 rfl
    obtain rfl : l = [] := List.eq_nil_of_length_eq_zero (by omega)
    subst h0
    have hr : (Builtin.copy_ #[22, 22] o.type #[.slice (some ⟨g, 0, none⟩) 0 dCap, .slice none 0 0]).run Tryd.prog w = .ok (goInt 0) w := run_copy_nil (P := Tryd.prog) w 22 22 o.type 24 ⟨g, 0, none⟩ 0 dCap Tryd.underlying22 (by rw [hsz]; rfl)
    simp [execOp, ho, resolve, invoke, builtin, hd, hs, hr, Result.andThen]
    exact hK _ _ (h w cur hg rfl (by simp [fr3]) (fun _ _ => rfl) rfl rfl rfl rfl)
  | some x =>
    have hr := run_copy_toks (P := Tryd.prog) w 22 22 o.type 24 g dCap l.length x cap cur 24 (fr3 l) Tryd.underlying22 hsz hg (fr3_len l) (sk_cells (h4 x rfl)) (by rw [fr3_len]; exact hc) (fr3_one l)
    simp [execOp, ho, resolve, invoke, builtin, hd, hs, hr, Result.andThen]
    refine hK _ _ (h _ _ (setRow_heap w g cur _ 24 _ hg) ?_ ?_ (fun k hk => setRow_other w g k _ hk) (by simp [World.setRow]) rfl rfl rfl)
    · simp [fr3_len]; omega
    · simp [← fr3_len]

set_option maxHeartbeats 4000000 in
theorem splits_walk (v : Value) (R : List Tk) (w : World) (h : SK w v R) (hb : ∀ t ∈ R, Bt t) (hn : R.length ≤ 5864062014800) (T : Ltab w ∧ Dtab w) :
    Calls Tryd.prog 3 #[v] w fun e w' => e = .returned (.bool true) ∧ Below w.heap.size w w' := by
  have HS := hide h
  have HBT := hide hb
  have HT := hide T
  obtain ⟨ao, cap, rfl, hlc, hcm⟩ := h.open
  have hw1 : wrap64 ((R.length : Int) + 1) = (R.length : Int) + 1 := by unfold wrap64; omega
  clear h hb T
  go_enter Tryd.func3, Tryd.ntmps3
  go_wp2_with (at_make; refine wpList_mkC rfl _ _ rfl _ _ R.length (R.length + 1) _ rfl rfl (by first | rfl | omega) (by omega) (by omega) ?_)
  intro w1 cur hg1 hc1 hb1
  have hV1 := HS.out.below hb1
  go_wp2_with (refine wpList_copyF rfl _ _ rfl w.heap.size (R.length + 1) (.slice ao R.length cap) R rfl rfl hV1 cur hg1 (by rw [hc1]; omega) ?_)
  intro w2 cur2 hg2 hz2 ht2 ho2 hs2 q1 q2 q3
  have HB2 : Hid (Below w.heap.size w w2) := ⟨q1.trans hb1.os, q2.trans hb1.tape, q3.trans hb1.output, by rw [hs2]; exact hb1.size, fun k hk => (ho2 k (by omega)).trans (hb1.block k hk)⟩
  have HGV : Hid (OK w2 w.heap.size (.slice (some ⟨w.heap.size, 0, none⟩) R.length (R.length + 1)) R) :=
    ⟨fr3_len R, .inr ⟨w.heap.size, R.length + 1, cur2, rfl, Nat.le_refl _, hg2, by omega, by unfold maxLen; omega, (by first | exact hz2 | exact hz2.trans hc1), ht2⟩⟩
  have HZ2 : Hid (w.heap.size ≤ w2.heap.size) := HB2.out.size
  have HN2 : Hid (R.length ≤ 5864062014800) := hn
  clear hg1 hc1 hb1 hV1 hg2 ho2 hs2 q1 q2 q3 hz2 ht2
  go_wp2_with (at_builtin; refine wpTok rfl _ _ rfl w.heap.size (.slice (some ⟨w.heap.size, 0, none⟩) R.length (R.length + 1)) R 77 0 0 rfl HGV.out _ rfl HN2.out HZ2.out ?_)
  intro vf w3 o3 g3
  have HB3 : Hid (Below w.heap.size w w3) := grow_tok HB2.out (Nat.le_refl _) HGV.out g3
  obtain ⟨RF, hRF⟩ : ∃ X, R ++ [((77 : Int), (0 : Int), (0 : Int))] = X := ⟨_, rfl⟩
  have hRl : RF.length = R.length + 1 := by rw [← hRF]; simp
  have hRt : RF.take R.length = R := by rw [← hRF]; simp
  have hRg : RF.getD R.length tk0 = (77, 0, 0) := by rw [← hRF]; simp [List.getD]
  rw [hRF] at o3
  obtain ⟨gf, cf, hvf, hcf1, hcf2⟩ : ∃ gf cf, vf = .slice (some ⟨gf, 0, none⟩) RF.length cf ∧ RF.length ≤ cf ∧ cf ≤ 9223372036854775807 := by
    rcases o3.2 with ⟨hx, h0⟩ | ⟨gf, cf, curf, hvf, _, _, h3, h4, _⟩
    · omega
    · unfold maxLen at h4
      exact ⟨gf, cf, hvf, h3, by omega⟩
  subst hvf
  have hsk := o3.sk
  have HIN : Hid (SK w3 (.slice (some ⟨gf, 0, none⟩) R.length cf) R) := by
    have := hsk.front (n := R.length) (by omega)
    rw [hRt] at this
    exact this
  have HX0 : Hid (∀ w', Below w3.heap.size w3 w' → w'.cell? ⟨gf, R.length * 3, none⟩ = some (.int .i64 77)) := fun w' hb => by
    obtain ⟨b, o, e, c, _, _⟩ := hsk.get hb (k := R.length) (by omega)
    simp only [Option.some.injEq, Addr.mk.injEq] at e
    obtain ⟨rfl, rfl, -⟩ := e
    rw [hRg, Nat.zero_add] at c
    exact c
  rw [hRl] at hcf1 ⊢
  have y1 : (R.length : Int) ≤ (cf : Int) := by omega
  have y2 : (R.length : Int) < (R.length : Int) + 1 := by omega
  have HSP := hide (fSplit_any gf 0 cf R w3 HIN.out HBT.out ⟨HT.out.1.low HB3.out, HT.out.2.low HB3.out⟩)
  have HE0 : Hid ((ctE R == ctE R) = true) := by show _ = _; simp
  have HLS : Hid ((spi R).length ≤ 1000000) := by
    show _ ≤ _
    unfold spi
    by_cases hE : ctE R = 0
    · rw [if_pos hE, List.length_map]
      have h1 := spl_len R
      have h2 : R.length ≤ 16777216 := by
        unfold ctE at hE
        by_cases h3 : 16777216 < R.length
        · rw [if_pos h3] at hE; omega
        · omega
      unfold spK at h1
      omega
    · rw [if_neg hE]; simp
  obtain ⟨E, hEE⟩ : ∃ E, ctE R = E := ⟨_, rfl⟩
  obtain ⟨L, hLL⟩ : ∃ L, spi R = L := ⟨_, rfl⟩
  have HGS := hide (fun w' (hb : Below w.heap.size w w') => gSplit_any _ R w' (HS.out.below hb) HBT.out)
  have HFS := hide (fun w' (hb : Below w3.heap.size w3 w') => fSplit_any gf 0 cf R w' (HIN.out.below hb) HBT.out ⟨HT.out.1.low (HB3.out.trans (hb.mono HB3.out.size)), HT.out.2.low (HB3.out.trans (hb.mono HB3.out.size))⟩)
  rw [hEE] at HE0 HSP HGS HFS
  rw [hLL] at HLS HSP HGS HFS
  have he0 := HE0.out
  clear o3 g3 hsk hRF hRl hRt hRg HGV HB2 HZ2 hEE hLL
  go_wp2_with fail
  refine HSP.out.mono ?_
  rintro e w4 ⟨u1, rfl, o4, b4⟩
  have HB4 := hide (HB3.out.trans (b4.mono HB3.out.size))
  have HBX4 := hide b4
  have HO4 := hide o4
  have HG4 := hide (HGS.out w4 HB4.out)
  obtain ⟨a1, p1, hu1⟩ := o4.shape
  subst hu1
  clear o4 b4 HSP HGS
  go_wp2_with fail
  refine HG4.out.mono ?_
  rintro e w5 ⟨u2, rfl, o5, b5⟩
  have HB5 := hide (HB4.out.trans (b5.mono HB4.out.size))
  have HBX5 := hide (HBX4.out.trans (b5.mono HBX4.out.size))
  have HO45 := hide (HO4.out.below b5 (Nat.le_refl _))
  have HO5 := hide o5
  have hz5 := b5.size
  obtain ⟨a2, p2, hu2⟩ := o5.shape
  subst hu2
  have x5 := HX0.out w5 HBX5.out
  clear o5 b5 HG4 HB4 HBX4
  go_wp2
  go_loopw [9] (fun i wr => ∃ k n : Nat, k ≤ R.length ∧ i = .int .i64 k ∧ wr = w5.drewN n) (fun i _ => R.length - (intOf i).toNat)
  case atStart => exact ⟨0, 0, Nat.zero_le _, rfl, rfl⟩
  case round =>
    obtain ⟨k, n, hk, rfl, hw⟩ := hrel
    subst hw
    by_cases hlt : k < R.length
    · have hlt' : (k : Int) < (R.length : Int) := by omega
      obtain ⟨b1, o1, hb1, c1, c2, c3⟩ := HIN.out.get (w := w5) HBX5.out hlt
      simp only [Option.some.injEq, Addr.mk.injEq] at hb1
      obtain ⟨rfl, rfl, -⟩ := hb1
      obtain ⟨b2, o2, rfl, d1, d2, d3⟩ := HS.out.get (w := w5) HB5.out hlt
      rw [Nat.zero_add] at c1 c2 c3
      obtain ⟨x, hx⟩ : ∃ x, x = R.getD k tk0 := ⟨_, rfl⟩
      rw [← hx] at c1 c2 c3 d1 d2 d3
      clear hx
      obtain ⟨xa, xb, xc⟩ := x
      simp only at c1 c2 c3 d1 d2 d3
      have hnq := fun W => tk_neq W xa xb xc xa xb xc
      have hgd := tok_guard
      have hbb : (!(xa == xa && (xb == xb && xc == xc))) = false := by simp
      rw [hbb] at hnq
      go_wp2
      go_quiet (fail)
      go_wp2
      go_roundw
      case rel => exact ⟨k + 1, _, by omega, by go_num, rfl⟩
      case measure => simp [intOf]; omega
    · have hlt' : ¬ (k : Int) < (R.length : Int) := by omega
      have HD : Hid (Below w5.heap.size w5 (w5.drewN n)) := below_drewN (Below.refl _ _) n
      have HF6 := hide (HFS.out (w5.drewN n) (HBX5.out.trans (HD.out.mono HBX5.out.size)))
      clear HFS
      go_wp2_with fail
      refine HF6.out.mono ?_
      rintro e w7 ⟨u3, rfl, o7, b7⟩
      have hz7 := b7.size
      have hdr : (w5.drewN n).heap.size = w5.heap.size := rfl
      have b57 : Below w5.heap.size w5 w7 := HD.out.trans b7
      have HB7 := hide (HB5.out.trans (b57.mono HB5.out.size))
      have HO17 := hide (HO45.out.below b57 (Nat.le_refl _))
      have HO27 := hide (HO5.out.below b57 (Nat.le_refl _))
      have HO37 := hide o7
      have HNE : Hid (∀ j, (Value.slice a1 L.length p1).ownBlock = some j → u3.ownBlock ≠ some j) := fun j h1 h2 => by
        have t1 := (HO4.out.lt j h1).2
        have t2 := (o7.lt j h2).1
        omega
      obtain ⟨a3, p3, hu3⟩ := o7.shape
      subst hu3
      have HQ1 := hide (isame11 _ _ L L w7 HO17.out.sb HO27.out.sb)
      have eI : eqI L L = true := by simp [eqI]
      rw [eI] at HQ1
      clear o7 b7 b57 HF6
      go_wp2_with fail
      refine HQ1.out.mono ?_
      rintro e w8 ⟨rfl, n8, hw8⟩
      subst hw8
      go_wp2_with fail
      refine (num_any _ _).mono ?_
      rintro e w9 ⟨rfl, hw9⟩
      subst hw9
      have HD8 : Hid (Below w7.heap.size w7 (w7.drewN n8)) := below_drewN (Below.refl _ _) n8
      have HQ2 := hide (isame11 _ _ L L (w7.drewN n8) (HO37.out.sb.below HD8.out) (HO27.out.sb.below HD8.out))
      rw [eI] at HQ2
      clear HQ1
      go_wp2_with fail
      refine HQ2.out.mono ?_
      rintro e w10 ⟨rfl, n10, hw10⟩
      have b10 : Below w7.heap.size w7 w10 := by rw [hw10]; exact below_drewN HD8.out n10
      have HB10 := hide (HB7.out.trans (b10.mono HB7.out.size))
      have HAP := hide (apartInts_any _ _ L L w10 w.heap.size ((HO17.out.below b10 (Nat.le_refl _)).base HB3.out.size) ((HO37.out.below b10 (Nat.le_refl _)).base HB5.out.size) HNE.out HLS.out HLS.out HB10.out.size)
      clear HQ2 hw10 b10
      go_wp2_with fail
      refine HAP.out.mono ?_
      rintro e w11 ⟨rfl, b11⟩
      have HB11 := hide (HB10.out.trans b11)
      clear b11 HAP
      go_wp2
      go_ret
      exact ⟨rfl, HB11.out⟩
end Go.Proofs.YtdpfjfkknimlfaaDoor

